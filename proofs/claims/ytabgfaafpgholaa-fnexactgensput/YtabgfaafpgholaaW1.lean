/-
  The two functions on atoms, the specification's and the program's: both answer atomB.
  (Ahead of it, in this text: Guards and poison: what both kinds of Guard, Rear and Poison answer. A term as a tree; how a tree lies in memory; what keeps it there. The size of a term: what szTerm and szTermS answer. The plain mathematics of an atom: which bytes stand where.)
-/
import Derived.Test.YtabgfaafpgholaaRows
import Derived.WalkKit
import Derived.ProofKit
import Derived.Outline
import Derived.Below
import Derived.Laws.World
namespace Go.Proofs.Ytabgfaafpgholaa
open Go.RowKit
set_option linter.unusedVariables false

def inA (x : Int) : Bool := decide (0 ≤ x ∧ x ≤ 4000)
def useOf (u : Bool) : Int := if u then 2 else 1
/-- A guard word: more is 1000 ahead and 1001 behind. -/
def gw (a n : Int) (u : Bool) (more : Int) : Int := if inA a && inA n then ((a * 7919 + n * 104729 + useOf u) * 3 + more) % 1000003 else 0
def pois (a : Int) : Int := if inA a then (a * 31 + 7777) % 1000003 else 0

theorem ret_bool {a b : Bool} (h : a = b) : Ending.returned (.bool a) = .returned (.bool b) := by rw [h]
theorem ret_int {k : IntKind} {a b : Int} (h : a = b) : Ending.returned (.int k a) = .returned (.int k b) := by rw [h]

def inB (x a b : Int) : Bool := decide (a ≤ x ∧ x ≤ b)
theorem in_any (x a b : Int) (w : World) :
    Calls Try.prog 90 #[.int .i64 x, .int .i64 a, .int .i64 b] w fun e w' => e = .returned (.bool (inB x a b)) ∧ w' = w := by
  by_cases h1 : a ≤ x
  · go_enter Try.func90, Try.ntmps90
    go_wp2
    go_ret
    exact ⟨by simp [inB, h1], rfl⟩
  · go_enter Try.func90, Try.ntmps90
    go_wp2
    go_ret
    exact ⟨by simp [inB]; omega, rfl⟩

theorem inA_true {x : Int} (h : inA x = true) : 0 ≤ x ∧ x ≤ 4000 := by simpa [inA] using h

end Go.Proofs.Ytabgfaafpgholaa
namespace Go.Proofs.Ytabgfaafpgholaa
open Go.RowKit

inductive Tm where
  | mk (k n : Int) (s : ByteArray) (l : List Tm)

theorem Tm.ind {P : Tm → Prop} (h : ∀ k n s l, (∀ t, t ∈ l → P t) → P (.mk k n s l)) : ∀ t, P t
  | .mk k n s l => h k n s l (fun t _ => Tm.ind h t)
  termination_by t => SizeOf.sizeOf t
  decreasing_by
    have := List.sizeOf_lt_of_mem ‹t ∈ l›
    simp only [Tm.mk.sizeOf_spec]; omega

mutual
/-- The four cells from off on in the block b are the term t; all blocks that it leads to are B or later. -/
def RepT (B : Nat) (w : World) : Tm → Nat → Nat → Prop
  | .mk k n s l, b, off => w.cell? ⟨b, off, none⟩ = some (.int .i64 k) ∧ w.cell? ⟨b, off + 1, none⟩ = some (.int .i64 n) ∧ w.cell? ⟨b, off + 2, none⟩ = some (.string s) ∧ s.size ≤ maxLen ∧
      ∃ ao cap, w.cell? ⟨b, off + 3, none⟩ = some (.slice ao l.length cap) ∧ l.length ≤ cap ∧ cap ≤ maxLen ∧ RepL B w l ao
/-- From this address on stand the terms of l. -/
def RepL (B : Nat) (w : World) : List Tm → Option Addr → Prop
  | [], _ => True
  | t :: r, ao => ∃ b off, ao = some ⟨b, off, none⟩ ∧ B ≤ b ∧ RepT B w t b off ∧ RepL B w r (some ⟨b, off + 4, none⟩)
end

/-- The value v is the term t. -/
def RepV (B : Nat) (w : World) : Tm → Value → Prop
  | .mk k n s l, v => ∃ ao cap, v = .agg #[.int .i64 k, .int .i64 n, .string s, .slice ao l.length cap] ∧ s.size ≤ maxLen ∧ l.length ≤ cap ∧ cap ≤ maxLen ∧ RepL B w l ao

/-! ### What keeps a tree -/
/-- All cells of blocks from B on that hold something in w hold the same in w'. -/
def Keeps (B : Nat) (w w' : World) : Prop := ∀ b o v, B ≤ b → w.cell? ⟨b, o, none⟩ = some v → w'.cell? ⟨b, o, none⟩ = some v

theorem Keeps.repL {B : Nat} {w w' : World} (hk : Keeps B w w') : ∀ (l : List Tm) (ao : Option Addr), RepL B w l ao → RepL B w' l ao := by
  have ht : ∀ t : Tm, ∀ b off, B ≤ b → RepT B w t b off → RepT B w' t b off := by
    refine Tm.ind ?_
    intro k n s l ih b off hb h
    rw [RepT] at h ⊢
    obtain ⟨h0, h1, h2, hs, ao, cap, h3, hl, hc, hr⟩ := h
    refine ⟨hk _ _ _ hb h0, hk _ _ _ hb h1, hk _ _ _ hb h2, hs, ao, cap, hk _ _ _ hb h3, hl, hc, ?_⟩
    clear h0 h1 h2 h3 hl hc
    induction l generalizing ao with
    | nil => rw [RepL]; trivial
    | cons t r ihr =>
      rw [RepL] at hr ⊢
      obtain ⟨b', off', e, hb', htt, hrr⟩ := hr
      exact ⟨b', off', e, hb', ih t (List.mem_cons_self ..) b' off' hb' htt, ihr (fun x hx => ih x (List.mem_cons_of_mem _ hx)) _ hrr⟩
  intro l
  induction l with
  | nil => intro ao _; rw [RepL]; trivial
  | cons t r ih =>
    intro ao h
    rw [RepL] at h ⊢
    obtain ⟨b', off', e, hb', htt, hrr⟩ := h
    exact ⟨b', off', e, hb', ht t b' off' hb' htt, ih _ hrr⟩
theorem Keeps.repV {B : Nat} {w w' : World} (hk : Keeps B w w') {t : Tm} {v : Value} (h : RepV B w t v) : RepV B w' t v := by
  obtain ⟨k, n, s, l⟩ := t
  obtain ⟨ao, cap, e, h1, h2, h3, h4⟩ := h
  exact ⟨ao, cap, e, h1, h2, h3, hk.repL _ _ h4⟩
theorem Keeps.below {w w' : World} (h : Below w.heap.size w w') (B : Nat) : Keeps B w w' := fun b o v _ hc => by
  rw [h.cell (p := ⟨b, o, none⟩) (World.block_lt_of_cell? w _ hc)]; exact hc
theorem Keeps.set {B : Nat} (w : World) {a : Addr} (ha : a.block < B) (v : Value) : Keeps B w (w.setCell a v) := fun b o u hb hc => by
  rw [World.cell?_setCell_other (h := fun e => by subst e; exact absurd ha (by show ¬ b < B; omega))]; exact hc
theorem Keeps.trans {B : Nat} {a b c : World} (h : Keeps B a b) (k : Keeps B b c) : Keeps B a c := fun x o v hx hc => k x o v hx (h x o v hx hc)
theorem Keeps.refl (B : Nat) (a : World) : Keeps B a a := fun _ _ _ _ hc => hc

mutual
theorem RepT.mono {B B' : Nat} {w : World} (hB : B' ≤ B) : ∀ (t : Tm) (b off : Nat), RepT B w t b off → RepT B' w t b off
  | .mk k n s l, b, off, h => by
    rw [RepT] at h ⊢
    obtain ⟨h0, h1, h2, hs, ao, cap, h3, hl, hc, hr⟩ := h
    exact ⟨h0, h1, h2, hs, ao, cap, h3, hl, hc, RepL.mono hB l ao hr⟩
theorem RepL.mono {B B' : Nat} {w : World} (hB : B' ≤ B) : ∀ (l : List Tm) (ao : Option Addr), RepL B w l ao → RepL B' w l ao
  | [], _, _ => by rw [RepL]; trivial
  | t :: r, ao, h => by
    rw [RepL] at h ⊢
    obtain ⟨b, off, e, hb, ht, hr⟩ := h
    exact ⟨b, off, e, by omega, RepT.mono hB t b off ht, RepL.mono hB r _ hr⟩
end

/-- The i-th of a list. -/
theorem RepL.at {B : Nat} {w : World} : ∀ (l : List Tm) (ao : Option Addr), RepL B w l ao → ∀ i (hi : i < l.length), ∃ b off, ao = some ⟨b, off, none⟩ ∧ B ≤ b ∧ RepT B w l[i] b (off + i * 4)
  | [], _, _, i, hi => absurd hi (Nat.not_lt_zero _)
  | t :: r, ao, h, i, hi => by
    rw [RepL] at h
    obtain ⟨b, off, e, hb, ht, hr⟩ := h
    refine ⟨b, off, e, hb, ?_⟩
    cases i with
    | zero => simpa using ht
    | succ j =>
      obtain ⟨b', off', e', _, h'⟩ := RepL.at r _ hr j (by simpa using hi)
      simp only [Option.some.injEq, Addr.mk.injEq] at e'
      obtain ⟨rfl, rfl, _⟩ := e'
      have : off + (j + 1) * 4 = off + 4 + j * 4 := by omega
      rw [this]
      exact h'

/-- The same one by one: four cells each. -/
theorem RepL.mk {B : Nat} {w : World} {b : Nat} (hb : B ≤ b) : ∀ (l : List Tm) (off : Nat), (∀ i (hi : i < l.length), RepT B w l[i] b (off + i * 4)) → RepL B w l (some ⟨b, off, none⟩)
  | [], _, _ => by rw [RepL]; trivial
  | t :: r, off, h => by
    rw [RepL]
    refine ⟨b, off, rfl, hb, by have := h 0 (Nat.zero_lt_succ _); rw [List.getElem_cons_zero, Nat.zero_mul, Nat.add_zero] at this; exact this, RepL.mk hb r (off + 4) (fun i hi => ?_)⟩
    have := h (i + 1) (by simpa using hi)
    rw [show off + 4 + i * 4 = off + (i + 1) * 4 by omega]
    simpa using this

/-! ### The size -/
mutual
def szT : Tm → Int → Int
  | .mk _ _ s l, left => if left - s.size < 0 then -1 else if left - s.size - l.length < 0 then -1 else szGo l (left - s.size - l.length)
def szGo : List Tm → Int → Int
  | [], a => a
  | t :: r, a => if szT t a < 0 then -1 else szGo r (szT t a)
end
mutual
theorem szT_le : ∀ (t : Tm) (a : Int), 0 ≤ a → -1 ≤ szT t a ∧ szT t a ≤ a
  | .mk k n s l, a, ha => by
    rw [szT]
    split
    · omega
    · split
      · omega
      · have := szGo_le l (a - s.size - l.length) (by omega); omega
theorem szGo_le : ∀ (l : List Tm) (a : Int), 0 ≤ a → -1 ≤ szGo l a ∧ szGo l a ≤ a
  | [], a, ha => by rw [szGo]; omega
  | t :: r, a, ha => by
    rw [szGo]
    have h1 := szT_le t a ha
    split
    · omega
    · have := szGo_le r (szT t a) (by omega); omega
end

/-- Every list in it has at most so many. -/
def SmallT : Tm → Prop
  | .mk _ _ _ l => l.length ≤ 1048576 ∧ ∀ t, t ∈ l → SmallT t
theorem sz_small : ∀ (t : Tm) (a : Int), 0 ≤ a → a ≤ 1048576 → 0 ≤ szT t a → SmallT t := by
  refine Tm.ind ?_
  intro k n s l ih a ha hm h
  rw [szT] at h
  rw [SmallT]
  split at h
  · omega
  · split at h
    · omega
    · refine ⟨by omega, ?_⟩
      have key : ∀ (r : List Tm) (c : Int), 0 ≤ c → c ≤ 1048576 → 0 ≤ szGo r c → (∀ t, t ∈ r → t ∈ l) → ∀ t, t ∈ r → SmallT t := by
        intro r
        induction r with
        | nil => intro _ _ _ _ _ t ht; cases ht
        | cons x r ihr =>
          intro c hc hcm hr hsub t ht
          rw [szGo] at hr
          split at hr
          · omega
          · rename_i hx
            have hle := szT_le x c hc
            rcases List.mem_cons.1 ht with rfl | ht
            · exact ih _ (hsub _ (List.mem_cons_self ..)) c hc hcm (by omega)
            · exact ihr (szT x c) (by omega) (by omega) hr (fun y hy => hsub y (List.mem_cons_of_mem _ hy)) t ht
      exact key l _ (by omega) (by omega) h (fun _ h => h)
end Go.Proofs.Ytabgfaafpgholaa
namespace Go.Proofs.Ytabgfaafpgholaa
open Go.RowKit

theorem bcell {W w1 : World} (hb : Below W.heap.size W w1) : (∀ b o, b < W.heap.size → w1.cell? ⟨b, o, none⟩ = W.cell? ⟨b, o, none⟩) ∧ (∀ b o, b < W.heap.size → w1.frozen? ⟨b, o, none⟩ = W.frozen? ⟨b, o, none⟩) :=
  ⟨fun b o h => hb.cell (p := ⟨b, o, none⟩) h, fun b o h => hb.frozen (p := ⟨b, o, none⟩) h⟩
def SzT (t : Tm) : Prop := ∀ (B : Nat) (w : World) (v : Value) (left : Int), RepV B w t v → 0 ≤ left → left ≤ 1048576 →
  Calls Try.prog 8 #[v, .int .i64 left] w fun e w' => e = .returned (.int .i64 (szT t left)) ∧ Below w.heap.size w w'
def SzS (l : List Tm) : Prop := ∀ (B : Nat) (w : World) (ao : Option Addr) (cap : Nat) (left : Int), RepL B w l ao → l.length ≤ cap → cap ≤ maxLen → 0 ≤ left → left ≤ 1048576 →
  Calls Try.prog 38 #[.slice ao l.length cap, .int .i64 left] w fun e w' => e = .returned (.int .i64 (if left - l.length < 0 then -1 else szGo l (left - l.length))) ∧ Below w.heap.size w w'

/-- The four cells, and the value that they are. -/
theorem RepT.cells {B : Nat} {w : World} {t : Tm} {b off : Nat} (h : RepT B w t b off) :
    ∃ k n s ao len cap, w.cell? ⟨b, off, none⟩ = some (.int .i64 k) ∧ w.cell? ⟨b, off + 1, none⟩ = some (.int .i64 n) ∧ w.cell? ⟨b, off + 2, none⟩ = some (.string s) ∧ w.cell? ⟨b, off + 3, none⟩ = some (.slice ao len cap) ∧
      RepV B w t (.agg #[.int .i64 k, .int .i64 n, .string s, .slice ao len cap]) := by
  obtain ⟨k, n, s, l⟩ := t
  rw [RepT] at h
  obtain ⟨h0, h1, h2, hs, ao, cap, h3, hl, hc, hr⟩ := h
  exact ⟨k, n, s, ao, l.length, cap, h0, h1, h2, h3, ao, cap, rfl, hs, hl, hc, hr⟩

theorem drop_go (l : List Tm) (k : Nat) (h : k < l.length) (c : Int) : szGo (l.drop k) c = if szT l[k] c < 0 then -1 else szGo (l.drop (k + 1)) (szT l[k] c) := by
  rw [List.drop_eq_getElem_cons h, szGo]

set_option maxHeartbeats 400000 in
theorem szS_of (l : List Tm) (ih : ∀ t, t ∈ l → SzT t) : SzS l := by
  intro B w ao cap left hr hl hc h0 hm
  have IH : Hid (∀ t, t ∈ l → SzT t) := ih
  have HR : Hid (RepL B w l ao) := hr
  clear ih hr
  unfold maxLen at hc
  by_cases hn : left - l.length < 0
  · go_enter Try.func38, Try.ntmps38
    go_wp2_with fail
    go_ret
    exact ⟨rfl, Below.refl _ _⟩
  · go_enter Try.func38, Try.ntmps38
    go_wp2_with fail
    go_loopw [1, 5] (fun a i w' => ∃ (k : Nat) (c : Int), k ≤ l.length ∧ i = .int .i64 k ∧ a = .int .i64 c ∧ 0 ≤ c ∧ c ≤ left ∧ Below w.heap.size w w' ∧ szGo (l.drop k) c = szGo l (left - l.length)) (fun _ i _ => l.length - (intOf i).toNat)
    case atStart => exact ⟨0, left - l.length, Nat.zero_le _, rfl, rfl, by omega, by omega, Below.refl _ _, rfl⟩
    case round =>
      obtain ⟨k, c, hk, rfl, rfl, hc0, hcl, hb, hz⟩ := hrel
      have HZ : Hid (szGo (l.drop k) c = szGo l (left - l.length)) := hz
      have HB : Hid (Below w.heap.size w wr) := hb
      clear hz hb
      by_cases hlt : k < l.length
      · obtain ⟨b, off, rfl, hB, ht⟩ := RepL.at l ao ((Keeps.below HB.out B).repL _ _ HR.out) k hlt
        obtain ⟨tk, tn, ts, tao, tlen, tcap, c0, c1, c2, c3, hv⟩ := ht.cells
        have HV : Hid (RepV B wr l[k] (.agg #[.int .i64 tk, .int .i64 tn, .string ts, .slice tao tlen tcap])) := hv
        have HD : Hid (szGo (l.drop k) c = if szT l[k] c < 0 then -1 else szGo (l.drop (k + 1)) (szT l[k] c)) := drop_go l k hlt c
        have hle := szT_le l[k] c hc0
        have HT : Hid (SzT l[k]) := IH.out _ (List.getElem_mem hlt)
        clear hv ht
        go_wp2_with fail
        refine (HT.out B _ _ c HV.out hc0 (by omega)).mono ?_
        rintro e w1 ⟨rfl, hb1⟩
        have HB1 : Hid (Below w.heap.size w w1) := HB.out.trans (hb1.mono HB.out.size)
        clear hb1
        generalize hg : szT l[k] c = x at *
        have HG : Hid (szT l[k] c = x) := hg
        clear hg
        by_cases hx : x < 0
        · go_wp2_with fail
          go_ret
          exact ⟨ret_int (by rw [← HZ.out, HD.out, if_pos hx]), HB1.out⟩
        · go_wp2_with fail
          go_roundw
          case rel => exact ⟨k + 1, x, by omega, by go_num, rfl, by omega, by omega, HB1.out, by rw [← HZ.out, HD.out, if_neg (by omega)]⟩
          case measure => simp [intOf]; omega
      · go_wp2_with fail
        go_ret
        have hkl : k = l.length := by omega
        have h := HZ.out
        rw [hkl, List.drop_length, szGo] at h
        exact ⟨ret_int h, HB.out⟩

set_option maxHeartbeats 400000 in
theorem szT_of (k n : Int) (s : ByteArray) (l : List Tm) (h : SzS l) : SzT (.mk k n s l) := by
  intro B w v left hv h0 hm
  obtain ⟨ao, cap, rfl, hs, hl, hc, hr⟩ := hv
  have HS : Hid (SzS l) := h
  have HR : Hid (RepL B w l ao) := hr
  have HE : Hid (szT (.mk k n s l) left = if left - s.size < 0 then -1 else if left - s.size - l.length < 0 then -1 else szGo l (left - s.size - l.length)) := by
    show szT _ _ = _; rw [szT]
  clear h hr
  have HC : Hid (cap ≤ maxLen) := hc
  unfold maxLen at hc hs
  by_cases hn : left - s.size < 0
  · go_enter Try.func8, Try.ntmps8
    go_wp2_with fail
    go_ret
    exact ⟨ret_int (by rw [HE.out, if_pos (by omega)]), (Below.refl _ _).alloc (Nat.le_refl _) _⟩
  · go_enter Try.func8, Try.ntmps8
    go_wp2_with fail
    refine (HS.out B _ _ _ (left - s.size) ((Keeps.below ((Below.refl _ _).alloc (Nat.le_refl _) _) B).repL _ _ HR.out) hl HC.out (by omega) (by omega)).mono ?_
    rintro e w1 ⟨rfl, hb1⟩
    have HB1 : Hid (Below w.heap.size w w1) := ((Below.refl _ _).alloc (Nat.le_refl _) _).trans (hb1.mono (by simp))
    clear hb1
    have HL := szGo_le l (left - s.size - l.length)
    generalize hg : (if left - ↑s.size - ↑l.length < 0 then (-1 : Int) else szGo l (left - ↑s.size - ↑l.length)) = x at *
    have hx1 : -1 ≤ x ∧ x ≤ left := by
      rw [← hg]; split
      · omega
      · have := HL (by omega); omega
    have HX : Hid (szT (.mk k n s l) left = x) := by
      have := HE.out; rw [if_neg (by omega)] at this; exact this
    clear HL hg HE
    by_cases hx : x < 0
    · go_wp2_with fail
      go_ret
      exact ⟨ret_int (by rw [HX.out]; omega), HB1.out⟩
    · go_wp2_with fail
      go_ret
      exact ⟨ret_int HX.out.symm, HB1.out⟩

theorem szT_all : ∀ t, SzT t := Tm.ind fun k n s l ih => szT_of k n s l (szS_of l ih)
end Go.Proofs.Ytabgfaafpgholaa
namespace Go.Proofs.Ytabgfaafpgholaa.Atom

/-- May the byte c stand at the place i? -/
def chOk (i c : Nat) : Bool := (97 ≤ c && c ≤ 122) || (i != 0 && (48 ≤ c && c ≤ 57))
/-- The first k bytes may stand where they stand. -/
def allTo (s : ByteArray) (k : Nat) : Bool := (List.range k).all fun i => chOk i (s.data.toList.getD i 0).toNat
def atomB (s : ByteArray) : Bool := allTo s s.size && decide (1 ≤ s.size ∧ s.size ≤ 12)

theorem allTo_zero (s : ByteArray) : allTo s 0 = true := rfl
theorem getD_at (s : ByteArray) (k : Nat) (h : k < s.size) : s.data.toList.getD k 0 = s[k] := by
  have h' : k < s.data.toList.length := by simpa using h
  rw [List.getD_eq_getElem?_getD, List.getElem?_eq_getElem h']; rfl
theorem allTo_succ (s : ByteArray) (k : Nat) (h : k < s.size) : allTo s (k + 1) = (allTo s k && chOk k s[k].toNat) := by
  unfold allTo
  rw [List.range_succ, List.all_append, List.all_cons, List.all_nil, Bool.and_true, getD_at s k h]
theorem allTo_false (s : ByteArray) (k n : Nat) (hk : k < n) (hn : n ≤ s.size) (hb : chOk k (s[k]'(by omega)).toNat = false) : allTo s n = false := by
  unfold allTo
  rw [List.all_eq_false]
  exact ⟨k, List.mem_range.2 hk, by rw [getD_at s k (by omega), hb]; simp⟩
theorem atomB_bad (s : ByteArray) (k : Nat) (hk : k < s.size) (hb : chOk k s[k].toNat = false) : atomB s = false := by
  unfold atomB; rw [allTo_false s k s.size hk (Nat.le_refl _) hb]; rfl
theorem atomB_len (s : ByteArray) (h : ¬ (1 ≤ s.size ∧ s.size ≤ 12)) : atomB s = false := by
  unfold atomB; simp [h]
theorem atomB_end (s : ByteArray) (h : allTo s s.size = true) : atomB s = decide (1 ≤ s.size ∧ s.size ≤ 12) := by
  unfold atomB; simp [h]
theorem chOk_true {i c : Nat} (h : (97 ≤ c ∧ c ≤ 122) ∨ (i ≠ 0 ∧ 48 ≤ c ∧ c ≤ 57)) : chOk i c = true := by
  unfold chOk; simp; omega
theorem chOk_false {i c : Nat} (h : ¬ ((97 ≤ c ∧ c ≤ 122) ∨ (i ≠ 0 ∧ 48 ≤ c ∧ c ≤ 57))) : chOk i c = false := by
  unfold chOk
  rw [Bool.eq_false_iff]; simp only [ne_eq, Bool.or_eq_true, Bool.and_eq_true, decide_eq_true_eq, bne_iff_ne]
  exact h
end Go.Proofs.Ytabgfaafpgholaa.Atom
namespace Go.Proofs.Ytabgfaafpgholaa.Atom
open Go.RowKit

/-- 'x is least .. most'. -/
def inB (x a b : Int) : Bool := decide (a ≤ x ∧ x ≤ b)
theorem inB_nat {c : Nat} (h : c < 256) (a b : Int) : inB (wrap64 c) a b = decide (a ≤ (c : Int) ∧ (c : Int) ≤ b) := by
  unfold inB wrap64
  have : ((c : Int) + 9223372036854775808) % 18446744073709551616 - 9223372036854775808 = c := by omega
  rw [this]

theorem in_any (x a b : Int) (w : World) :
    Calls Try.prog 90 #[.int .i64 x, .int .i64 a, .int .i64 b] w fun e w' => e = .returned (.bool (inB x a b)) ∧ w' = w := by
  by_cases h1 : a ≤ x
  · go_enter Try.func90, Try.ntmps90
    go_wp2
    go_ret
    exact ⟨by simp [inB, h1], rfl⟩
  · go_enter Try.func90, Try.ntmps90
    go_wp2
    go_ret
    exact ⟨by simp [inB]; omega, rfl⟩

theorem ret_bool {a b : Bool} (h : a = b) : Ending.returned (.bool a) = .returned (.bool b) := by rw [h]

set_option maxHeartbeats 400000 in
theorem spec_any (s : ByteArray) (w : World) (hs : s.size ≤ maxLen) :
    Calls Try.prog 92 #[.string s] w fun e w' => e = .returned (.bool (atomB s)) ∧ w' = w := by
  unfold maxLen at hs
  go_enter Try.func92, Try.ntmps92
  go_wp2_with fail
  go_loop [3] (fun i => ∃ k : Nat, k ≤ s.size ∧ i = .int .i64 k ∧ allTo s k = true) (fun i => s.size - (intOf i).toNat)
  case atStart => exact ⟨0, Nat.zero_le _, rfl, rfl⟩
  case round =>
    obtain ⟨k, hk, rfl, ha⟩ := hrel
    have HA : Hid (allTo s k = true) := ha
    clear ha
    by_cases hlt : k < s.size
    · have hc : s[k].toNat < 256 := s[k].toNat_lt
      have e1 := inB_nat hc 97 122
      have e2 := inB_nat hc 48 57
      have HS : Hid (allTo s (k + 1) = (allTo s k && chOk k s[k].toNat)) := allTo_succ s k hlt
      have HB : Hid (chOk k s[k].toNat = false → atomB s = false) := atomB_bad s k hlt
      have HC : Hid (inB (wrap64 s[k].toNat) 97 122 = decide ((97 : Int) ≤ (s[k].toNat : Int) ∧ (s[k].toNat : Int) ≤ 122) ∧ inB (wrap64 s[k].toNat) 48 57 = decide ((48 : Int) ≤ (s[k].toNat : Int) ∧ (s[k].toNat : Int) ≤ 57)) := ⟨e1, e2⟩
      clear e1 e2 hc
      cases h1 : inB (wrap64 s[k].toNat) 97 122
      · have H1 : Hid (¬ (97 ≤ s[k].toNat ∧ s[k].toNat ≤ 122)) := by
          have := HC.out.1; rw [h1] at this
          intro hh; have := of_decide_eq_false this.symm; omega
        by_cases h0 : k = 0
        · subst h0
          go_wp2_with (go_at_call 90; refine (in_any _ _ _ _).mono ?_; rintro e w' ⟨rfl, rfl⟩)
          go_ret
          exact ⟨ret_bool (HB.out (chOk_false (by have := H1.out; omega))).symm, rfl⟩
        · cases h2 : inB (wrap64 s[k].toNat) 48 57
          · have H2 : Hid (¬ (48 ≤ s[k].toNat ∧ s[k].toNat ≤ 57)) := by
              have := HC.out.2; rw [h2] at this
              intro hh; have := of_decide_eq_false this.symm; omega
            go_wp2_with (go_at_call 90; refine (in_any _ _ _ _).mono ?_; rintro e w' ⟨rfl, rfl⟩)
            go_ret
            exact ⟨ret_bool (HB.out (chOk_false (by have := H1.out; have := H2.out; omega))).symm, rfl⟩
          · have H2 : Hid (48 ≤ s[k].toNat ∧ s[k].toNat ≤ 57) := by
              have := HC.out.2; rw [h2] at this
              have := of_decide_eq_true this.symm; exact ⟨by omega, by omega⟩
            go_wp2_with (go_at_call 90; refine (in_any _ _ _ _).mono ?_; rintro e w' ⟨rfl, rfl⟩)
            go_round
            case rel => exact ⟨k + 1, by omega, by go_num, by rw [HS.out, HA.out, chOk_true (Or.inr ⟨h0, H2.out⟩)]; rfl⟩
            case measure => simp [intOf]; omega
      · have H1 : Hid (97 ≤ s[k].toNat ∧ s[k].toNat ≤ 122) := by
          have := HC.out.1; rw [h1] at this
          have := of_decide_eq_true this.symm; exact ⟨by omega, by omega⟩
        go_wp2_with (go_at_call 90; refine (in_any _ _ _ _).mono ?_; rintro e w' ⟨rfl, rfl⟩)
        go_round
        case rel => exact ⟨k + 1, by omega, by go_num, by rw [HS.out, HA.out, chOk_true (Or.inl H1.out)]; rfl⟩
        case measure => simp [intOf]; omega
    · go_wp2_with (go_at_call 90; refine (in_any _ _ _ _).mono ?_; rintro e w' ⟨rfl, rfl⟩)
      go_ret
      have hk' : k = s.size := by omega
      have h := HA.out
      rw [hk'] at h
      exact ⟨ret_bool (by rw [atomB_end s h]; unfold inB; exact decide_eq_decide.2 (by omega)), rfl⟩

/-- The same bytes, whatever the range over the string makes of those that are no text. -/
theorem decode_low (s : ByteArray) (pos : Nat) (h : pos < s.size) (ha : (Utf8.decode s pos).1 < 128) : Utf8.decode s pos = (s[pos].toNat, 1) := by
  by_cases hb : s[pos].toNat < 128
  · exact decode_ascii s pos h hb
  · have := (decode_high s pos h (by omega)).1; omega

theorem dec_bad (s : ByteArray) (k : Nat) (h : k < s.size) (hb : ¬ ((97 ≤ (Utf8.decode s k).1 ∧ (Utf8.decode s k).1 ≤ 122) ∨ (k ≠ 0 ∧ 48 ≤ (Utf8.decode s k).1 ∧ (Utf8.decode s k).1 ≤ 57))) : atomB s = false := by
  refine atomB_bad s k h (chOk_false ?_)
  by_cases hc : s[k].toNat < 128
  · rw [decode_ascii s k h hc] at hb; exact hb
  · omega
theorem dec_good (s : ByteArray) (k : Nat) (h : k < s.size) (hb : (97 ≤ (Utf8.decode s k).1 ∧ (Utf8.decode s k).1 ≤ 122) ∨ (k ≠ 0 ∧ 48 ≤ (Utf8.decode s k).1 ∧ (Utf8.decode s k).1 ≤ 57)) (ha : allTo s k = true) :
    (Utf8.decode s k).2 = 1 ∧ allTo s (k + 1) = true := by
  have e := decode_low s k h (by omega)
  rw [e] at hb
  exact ⟨by rw [e], by rw [allTo_succ s k h, ha, chOk_true hb]; rfl⟩

set_option maxHeartbeats 400000 in
theorem impl_any (s : ByteArray) (w : World) (hs : s.size ≤ maxLen) :
    Calls Try.prog 76 #[.string s] w fun e w' => e = .returned (.bool (atomB s)) ∧ (w' = w ∨ ∃ pos, w' = w.iter s pos) := by
  unfold maxLen at hs
  by_cases hl : 1 ≤ s.size
  · by_cases hm : s.size ≤ 12
    · go_enter Try.func76, Try.ntmps76
      go_wp2
      go_loopw [] (fun w' => ∃ k : Nat, w' = w.iter s k ∧ k ≤ s.size ∧ allTo s k = true) (fun w' => s.size - w'.iterPos w.heap.size)
      case atStart => exact ⟨0, rfl, Nat.zero_le _, rfl⟩
      case round =>
        obtain ⟨k, rfl, hk, ha⟩ := hrel
        have HA : Hid (allTo s k = true) := ha
        clear ha
        by_cases hlt : k < s.size
        · have hnx : ∀ ty, (Instr.next (.pointer (some ⟨w.heap.size, 0, none⟩)) true ty).run Try.prog (w.iter s k) = _ := fun ty => run_next_any w s k ty hlt
          have HB := dec_bad s k hlt
          have HG := dec_good s k hlt
          have HB' : Hid (¬ ((97 ≤ (Utf8.decode s k).1 ∧ (Utf8.decode s k).1 ≤ 122) ∨ (k ≠ 0 ∧ 48 ≤ (Utf8.decode s k).1 ∧ (Utf8.decode s k).1 ≤ 57)) → atomB s = false) := HB
          have HG' : Hid ((97 ≤ (Utf8.decode s k).1 ∧ (Utf8.decode s k).1 ≤ 122) ∨ (k ≠ 0 ∧ 48 ≤ (Utf8.decode s k).1 ∧ (Utf8.decode s k).1 ≤ 57) → allTo s k = true → (Utf8.decode s k).2 = 1 ∧ allTo s (k + 1) = true) := HG
          clear HB HG
          by_cases c1 : (97 : Int) ≤ ((Utf8.decode s k).1 : Int)
          · by_cases c2 : ((Utf8.decode s k).1 : Int) ≤ 122
            · have hd := HG'.out (Or.inl (by omega)) HA.out
              have HD : Hid ((Utf8.decode s k).2 = 1 ∧ allTo s (k + 1) = true) := hd
              clear hd
              go_wp2
              go_roundw
              case rel => exact ⟨k + 1, by rw [HD.out.1], by omega, HD.out.2⟩
              case measure => rw [HD.out.1]; simp; omega
            · have hd := HB'.out (by omega)
              have HD : Hid (atomB s = false) := hd
              clear hd
              go_wp2
              go_ret
              exact ⟨ret_bool HD.out.symm, Or.inr ⟨_, rfl⟩⟩
          · by_cases c3 : (48 : Int) ≤ ((Utf8.decode s k).1 : Int)
            · by_cases c4 : ((Utf8.decode s k).1 : Int) ≤ 57
              · by_cases c5 : k = 0
                · have hd := HB'.out (by omega)
                  have HD : Hid (atomB s = false) := hd
                  clear hd
                  subst c5
                  go_wp2
                  go_ret
                  exact ⟨ret_bool HD.out.symm, Or.inr ⟨_, rfl⟩⟩
                · have hd := HG'.out (Or.inr (by omega)) HA.out
                  have HD : Hid ((Utf8.decode s k).2 = 1 ∧ allTo s (k + 1) = true) := hd
                  clear hd
                  go_wp2
                  go_roundw
                  case rel => exact ⟨k + 1, by rw [HD.out.1], by omega, HD.out.2⟩
                  case measure => rw [HD.out.1]; simp; omega
              · have hd := HB'.out (by omega)
                have HD : Hid (atomB s = false) := hd
                clear hd
                go_wp2
                go_ret
                exact ⟨ret_bool HD.out.symm, Or.inr ⟨_, rfl⟩⟩
            · have hd := HB'.out (by omega)
              have HD : Hid (atomB s = false) := hd
              clear hd
              go_wp2
              go_ret
              exact ⟨ret_bool HD.out.symm, Or.inr ⟨_, rfl⟩⟩
        · have hnx : ∀ ty, (Instr.next (.pointer (some ⟨w.heap.size, 0, none⟩)) true ty).run Try.prog (w.iter s k) = _ := fun ty => run_next_end w s k ty hlt
          go_wp2
          go_ret
          have hk' : k = s.size := by omega
          have h := HA.out
          rw [hk'] at h
          exact ⟨ret_bool (by rw [atomB_end s h]; simp [hl, hm]), Or.inr ⟨_, rfl⟩⟩
    · go_enter Try.func76, Try.ntmps76
      go_wp2
      go_ret
      exact ⟨ret_bool (atomB_len s (by omega)).symm, Or.inl rfl⟩
  · go_enter Try.func76, Try.ntmps76
    go_wp2
    go_ret
    exact ⟨ret_bool (atomB_len s (by omega)).symm, Or.inl rfl⟩
end Go.Proofs.Ytabgfaafpgholaa.Atom
