/-
  append of make onto a row of the call's own: whatever room it has.
  (Ahead of it, in this text: What the readings of both programs share: what gives up, a word, bytes as a text, boxes; where the words of a heap stand.)
-/
import Derived.Test.YtabgfaafpgholaaW3
import Derived.Test.YtabgfaafpgholaaW4
import Derived.Test.YtabgfaafpgholaaW6
import Derived.WalkLawsBesides
import Derived.Defers
import Derived.Recover
import Derived.Maps.AppendAt
import Derived.Laws.OwnMore
import Derived.Laws.IdiomStrings
import Derived.Lib.AppendZerosOnto
import Derived.Deep.AppendLies
namespace Go.Proofs.Ytabgfaafpgholaa
open Go.RowKit
set_option linter.unusedVariables false

/-- What giving up throws. -/
def PN : List PanicEntry := [{ v := .iface 9 (.string ⟨#[110, 111, 32, 116, 101, 114, 109]⟩), recovered := false }]
theorem insist_yes (w : World) : Calls Try.prog 93 #[.bool true] w fun e w' => e = .returned (.tuple #[]) ∧ w' = w := by
  go_enter Try.func93, Try.ntmps93
  go_wp2
  go_end0
  exact ⟨rfl, rfl⟩
theorem insist_no (w : World) : Calls Try.prog 93 #[.bool false] w fun e w' => e = .panicked PN ∧ w' = w := by
  go_enter Try.func93, Try.ntmps93
  go_wp2
  exact ⟨rfl, rfl, rfl⟩
theorem isWord_any (x : Int) (hx : x ≤ 9223372036854775807) (w : World) :
    Calls Try.prog 106 #[.int .i64 x] w fun e w' => e = .returned (.bool (isW x)) ∧ w' = w := by
  have HW : Hid (isW x = decide (mkw (tagW x) (valW x) = x)) := by show _ = _; rfl
  have HX : Hid (x ≤ 9223372036854775807) := hx
  clear hx
  go_enter Try.func106, Try.ntmps106
  go_wp2_with (first | (go_at_call 120; refine (implTag_any x HX.out _).mono ?_; rintro e w' ⟨rfl, rfl⟩) | (go_at_call 121; refine (implVal_any x HX.out _).mono ?_; rintro e w' ⟨rfl, rfl⟩) | (go_at_call 98; refine (implMake_any _ _ _).mono ?_; rintro e w' ⟨rfl, rfl⟩))
  go_ret
  refine ⟨ret_bool ?_, rfl⟩
  rw [HW.out]
  first | rfl | simp
/-- What is read from: the words H.f in the block b from o on, the atoms H.A in the block ab from ao on; both are named by the three cells of rb. -/
structure Env where
  H : Hp
  rb : Nat
  wv : Option Addr
  b : Nat
  o : Nat
  cap : Nat
  av : Option Addr
  ab : Nat
  ao : Nat
  acap : Nat
theorem ret_sl {a : Option Addr} {n n' c c' : Nat} (h : n = n') (k : c = c') : Ending.returned (.slice a n c) = .returned (.slice a n' c') := by rw [h, k]
theorem infoParts {e : TypeId} {z : Value} {n b : Nat} (h : (Try.prog.info? e).map (fun i => (i.zero, i.size, i.bytes)) = some (some z, n, b)) : ∃ i, Try.prog.info? e = some i ∧ i.zero = some z ∧ i.size = n ∧ i.bytes = b := by
  obtain ⟨i, hi, hh⟩ := Option.map_eq_some_iff.1 h
  simp only [Prod.mk.injEq] at hh
  exact ⟨i, hi, hh.1, hh.2.1, hh.2.2⟩
theorem infoU8 : (Try.prog.info? 5).map (fun i => (i.zero, i.size, i.bytes)) = some (some (.int .u8 0), 1, 1) := by kernel_rfl
theorem undU8s : Try.prog.underlying 47 = some (.slice 5) := by kernel_rfl
theorem infoTm : (Try.prog.info? 39).map (fun i => (i.zero, i.size, i.bytes)) = some (some (.agg #[.int .i64 0, .int .i64 0, .string ⟨#[]⟩, .slice none 0 0]), 4, 56) := by kernel_rfl
theorem undTms : Try.prog.underlying 37 = some (.slice 39) := by kernel_rfl
/-- v is the bytes xs, in a block of its own from base on. -/
def Own8 (w : World) (base : Nat) (v : Value) (xs : List Int) : Prop := ∃ g cc, v = .slice (some ⟨g, 0, none⟩) xs.length cc ∧ w.ownsRow base 5 1 v xs.length (xs.map (Value.int .u8))
theorem own8_of {w : World} {base : Nat} {v : Value} {n : Nat} {xs : List Int} (h : w.ownsRow base 5 1 v n (xs.map (Value.int .u8))) (hn : v ≠ .slice none 0 0) : Own8 w base v xs := by
  have hl : n = xs.length := by have := h.1; simp at this; omega
  subst hl
  rcases h.2 with ⟨h0, _⟩ | ⟨g, cap, cur, h1, _⟩
  · exact absurd h0 hn
  · exact ⟨g, cap, h1, h⟩
theorem own8_start (w : World) : Own8 (w.alloc (.cells #[] 5)) w.heap.size (.slice (some ⟨w.heap.size, 0, none⟩) 0 0) [] := ⟨_, 0, rfl, World.ownsRow_made w #[] 0 (Nat.le_refl _) (Nat.zero_le _) rfl⟩
theorem src8 (w : World) (x : Int) (t : TypeId) : ∀ j u, [Value.int .u8 x][j]? = some u → (w.alloc (.cells #[.int .u8 x] t)).cell? ((⟨w.heap.size, 0, none⟩ : Addr).add j) = some u := fun j u hu => by
  rw [Addr.add_lit, Nat.zero_add, World.cell?_alloc_new]
  simpa using hu
theorem one8 (x : Int) : ∀ u ∈ [Value.int .u8 x], u.oneCell' = true := fun u hu => by
  obtain rfl : u = .int .u8 x := by simpa using hu
  rfl
theorem isByte_wrap {x : Int} (h : isByte x = true) : IntKind.u8.wrap x = x := by
  unfold isByte at h
  simp at h
  rw [IntKind.wrap_u8]
  omega
/-- The text of bytes that are all there. -/
theorem conv8 {w : World} {base g cc : Nat} {xs : List Int} (h : w.ownsRow base 5 1 (.slice (some ⟨g, 0, none⟩) xs.length cc) xs.length (xs.map (Value.int .u8))) (hy : ∀ x ∈ xs, isByte x = true) :
    (convert 47 9 (.slice (some ⟨g, 0, none⟩) xs.length cc)).run Try.prog w = .ok (.string (txtB xs)) w := by
  have := run_convert_bytes_back (P := Try.prog) w 47 9 5 ⟨g, 0, none⟩ cc (xs.map fun x => UInt8.ofNat x.toNat) Try.underlying47 Try.underlying5 Try.underlying9 (fun j hj => by
    have hj' : j < xs.length := by simpa using hj
    rw [Addr.add_lit, Nat.zero_add, h.cellAt j (by omega)]
    simp only [List.getElem?_map, List.getElem?_eq_getElem hj', Option.map_some, List.getElem_map]
    have hb := hy _ (List.getElem_mem hj')
    unfold isByte at hb
    simp at hb
    congr 2
    simp
    omega)
  rw [List.length_map] at this
  exact this
set_option maxHeartbeats 1000000 in
set_option maxRecDepth 100000 in
theorem textOf_any (b p cap : Nat) (l : List Int) (w : World) (hc : ∀ j (hj : j < l.length), w.cell? ⟨b, p + j, none⟩ = some (.int .i64 l[j])) (hl : l.length ≤ 40) :
    Calls Try.prog 125 #[.slice (some ⟨b, p, none⟩) l.length cap] w fun e w' => (l.all isByte = true ∧ e = .returned (.string (txtB l)) ∨ l.all isByte = false ∧ e = .panicked PN) ∧ Below w.heap.size w w' := by
  have HC : Hid (∀ j (hj : j < l.length), w.cell? ⟨b, p + j, none⟩ = some (.int .i64 l[j])) := hc
  clear hc
  obtain ⟨i0, hi, hz0, hz1, hz2⟩ := infoParts infoU8
  have HI : Hid (Try.prog.info? 5 = some i0 ∧ i0.zero = some (.int .u8 0) ∧ i0.size = 1 ∧ i0.bytes = 1) := ⟨hi, hz0, hz1, hz2⟩
  clear hi hz0 hz1 hz2
  go_enter Try.func125, Try.ntmps125
  go_wp2_with fail
  go_loopw [3, 9] (fun v i wr => ∃ m : Nat, m ≤ l.length ∧ i = .int .i64 m ∧ Own8 wr w.heap.size v (l.take m) ∧ (∀ x ∈ l.take m, isByte x = true) ∧ Below w.heap.size w wr) (fun _ i _ => l.length - (intOf i).toNat)
  case atStart => exact ⟨0, Nat.zero_le _, rfl, own8_start w, by simp, (Below.refl _ _).alloc (Nat.le_refl _) _⟩
  case round =>
    obtain ⟨m, hm, rfl, ho, hy, hb⟩ := hrel
    have HY : Hid (∀ x ∈ l.take m, isByte x = true) := hy
    have HB : Hid (Below w.heap.size w wr) := hb
    obtain ⟨g, cc, rfl, hown⟩ := ho
    have htl : (l.take m).length = m := by simp; omega
    have HO : Hid (wr.ownsRow w.heap.size 5 1 (.slice (some ⟨g, 0, none⟩) m cc) m ((l.take m).map (Value.int .u8))) := by rw [htl] at hown; exact hown
    rw [htl]
    clear hy hb hown htl
    by_cases hlt : m < l.length
    · have q : wr.cell? ⟨b, p + m, none⟩ = some (.int .i64 l[m]) := by
        rw [HB.out.cell (p := ⟨b, p + m, none⟩) (World.block_lt_of_cell? w _ (HC.out m hlt))]; exact HC.out m hlt
      have HX : Hid (l.take (m + 1) = l.take m ++ [l[m]]) := by show _ = _; rw [List.take_add_one, List.getElem?_eq_getElem hlt]; rfl
      have HM : Hid (l[m] ∈ l) := List.getElem_mem hlt
      generalize l[m] = x at *
      cases hx : isByte x with
      | true =>
        have hx0 : 0 ≤ x ∧ x ≤ 255 := by simpa [isByte] using hx
        have hx1 := hx0.1
        have hx2 := hx0.2
        have hxw := isByte_wrap hx
        have HXB : Hid (isByte x = true) := hx
        clear hx hx0
        have HO2 : Hid ((wr.alloc (.cells #[.int .u8 x] 5)).ownsRow w.heap.size 5 1 (.slice (some ⟨g, 0, none⟩) m cc) m ((l.take m).map (Value.int .u8))) := HO.out.alloc _
        have HL2 : Hid ([Value.int .u8 x].length = 1 * 1) := rfl
        have C3 : Hid (m + 1 ≤ maxLen) := by show _ ≤ _; unfold maxLen; omega
        have C4 : Hid ((m + 1) * 1 ≤ 140737488355328) := by show _ ≤ _; omega
        have HB2 : Hid (Below w.heap.size w (wr.alloc (.cells #[.int .u8 x] 5))) := HB.out.alloc HB.out.size _
        go_wp2_with (first | (go_at_call 93; refine (insist_yes _).mono ?_; rintro e w' ⟨rfl, rfl⟩) | (at_builtin; refine wpList_append_own_at _ rfl _ _ 47 rfl w.heap.size 5 i0 (.int .u8 0) 1 1 undU8s HI.out.1 HI.out.2.1 HI.out.2.2.1 HI.out.2.2.2 rfl Nat.zero_lt_one _ m _ rfl HO2.out ⟨_, 0, none⟩ 1 1 [.int .u8 x] rfl HL2.out (src8 _ x _) (one8 x) C3.out C4.out HB2.out.size ?_; intro v5 w5 hown5 hgr5 hnn5 hat5))
        go_roundw
        case rel =>
          refine ⟨m + 1, by omega, by go_num, ?_, ?_, ?_⟩
          · rw [HX.out]
            refine own8_of (n := m + 1) (by rw [List.map_append]; exact hown5) (fun e => by have := (hnn5.1 e).1; cases this)
          · rw [HX.out]
            intro y hy
            rcases List.mem_append.1 hy with hy | hy
            · exact HY.out y hy
            · obtain rfl : y = x := by simpa using hy
              exact HXB.out
          · exact HB2.out.grown hgr5 HB2.out.size (fun k hk => (HO2.out.lt k hk).1)
        case measure => simp [intOf]; omega
      | false =>
        have hx0 : x < 0 ∨ 255 < x := by simp [isByte] at hx; omega
        have HXB : Hid (l.all isByte = false) := by
          show _ = _
          rw [List.all_eq_false]
          exact ⟨x, HM.out, by rw [hx]; simp⟩
        clear hx
        rcases hx0 with hx0 | hx0
        · go_wp2_with (first | (go_at_call 93; refine (insist_no _).mono ?_; rintro e w' ⟨rfl, rfl⟩))
          exact ⟨rfl, .inr ⟨HXB.out, rfl⟩, HB.out⟩
        · have hx1 : 0 ≤ x := by omega
          have hd : decide (x ≤ 255) = false := by simp; omega
          go_wp2_with (first | (go_at_call 93; refine (insist_no _).mono ?_; rintro e w' ⟨rfl, rfl⟩))
          exact ⟨rfl, .inr ⟨HXB.out, rfl⟩, HB.out⟩
    · have hml : m = l.length := by omega
      have htk : l.take m = l := by rw [hml]; simp
      rw [htk] at HO HY
      have HO' : Hid (wr.ownsRow w.heap.size 5 1 (.slice (some ⟨g, 0, none⟩) l.length cc) l.length (l.map (Value.int .u8))) := by show World.ownsRow ..; rw [← hml]; exact HO.out
      have hcv := conv8 HO'.out HY.out
      rw [← hml] at hcv
      have HA : Hid (l.all isByte = true) := by show _ = _; rw [List.all_eq_true]; exact HY.out
      clear htk hml
      go_wp2_with fail
      go_ret
      exact ⟨.inl ⟨HA.out, rfl⟩, HB.out⟩
theorem four8 {w : World} {a b c d : Value} {t : TypeId} : ∀ j u, [a, b, c, d][j]? = some u → (w.alloc (.cells #[a, b, c, d] t)).cell? ((⟨w.heap.size, 0, none⟩ : Addr).add j) = some u := fun j u hu =>
  World.news_of_block (w := w.alloc (.cells #[a, b, c, d] t)) (B := w.heap.size) (cs := #[a, b, c, d]) (t := t) (fr := (0, 0)) (by show (w.heap.push _)[w.heap.size]? = _; simp) j u hu
def pre (l : List Tm) : Option (List Tm × Nat) → Option (List Tm × Nat)
  | none => none
  | some (r, x) => some (l ++ r, x)
theorem pre_pre (l r : List Tm) (o : Option (List Tm × Nat)) : pre l (pre r o) = pre (l ++ r) o := by
  cases o with
  | none => rfl
  | some p => simp [pre]
theorem pre_nil (o : Option (List Tm × Nat)) : pre [] o = o := by
  cases o with
  | none => rfl
  | some p => simp [pre]
theorem rTs_none {H : Hp} {g : Rd} {k q y : Nat} (h : g (H.f q) y = none) : rTs H g (k + 1) q y = none := by rw [rTs, h]
theorem rTs_some {H : Hp} {g : Rd} {k q y : Nat} {t : Tm} {z : Nat} (h : g (H.f q) y = some (t, z)) : rTs H g (k + 1) q y = pre [t] (rTs H g k (q + 1) z) := by
  rw [rTs, h]
  simp only
  cases rTs H g k (q + 1) z with
  | none => rfl
  | some p => rfl
theorem one4 {a b : Int} {c : ByteArray} {d : Option Addr} {e f : Nat} : ∀ u ∈ [Value.int .i64 a, .int .i64 b, .string c, .slice d e f], u.oneCell' = true := by
  intro u' hu'
  simp at hu'
  rcases hu' with rfl | rfl | rfl | rfl <;> rfl
theorem rL_end {H : Hp} {g : Rd} {k y : Nat} : rL H g k 3 y = some ([], y) := by
  cases k <;> rw [rL, if_pos rfl]
theorem rL_off {H : Hp} {g : Rd} {k y : Nat} {x : Int} (h : x ≠ 3) (hc : ¬ consAt H x) : rL H g k x y = none := by
  cases k with
  | zero => rw [rL, if_neg h]
  | succ k => rw [rL, if_neg h, if_neg hc]
theorem rL_none {H : Hp} {g : Rd} {k y : Nat} {x : Int} (h : x ≠ 3) (hg : g (H.f (valW x).toNat) y = none) : rL H g k x y = none := by
  cases k with
  | zero => rw [rL, if_neg h]
  | succ k =>
    rw [rL, if_neg h]
    split
    · rw [hg]
    · rfl
theorem rL_some {H : Hp} {g : Rd} {k y : Nat} {x : Int} (h : x ≠ 3) (hc : consAt H x) {t : Tm} {z : Nat} (hg : g (H.f (valW x).toNat) y = some (t, z)) : rL H g (k + 1) x y = pre [t] (rL H g k (H.f ((valW x).toNat + 1)) z) := by
  rw [rL, if_neg h, if_pos hc, hg]
  simp only
  cases rL H g k (H.f ((valW x).toNat + 1)) z with
  | none => rfl
  | some p => rfl
/-- More rounds than may come yet make no difference. -/
theorem rL_more {H : Hp} {g : Rd} (hg : ∀ w left t x, g w left = some (t, x) → x < left) : ∀ (k k' : Nat) (x : Int) (y : Nat), y ≤ k → y ≤ k' → rL H g k x y = rL H g k' x y
  | 0, 0, x, y, _, _ => rfl
  | 0, k' + 1, x, y, h, _ => by
    rw [rL, rL]
    split
    · rfl
    · split
      · cases hq : g (H.f (valW x).toNat) y with
        | none => rfl
        | some p => obtain ⟨t, z⟩ := p; have := hg _ _ _ _ hq; omega
      · rfl
  | k + 1, 0, x, y, _, h => by
    rw [rL, rL]
    split
    · rfl
    · split
      · cases hq : g (H.f (valW x).toNat) y with
        | none => rfl
        | some p => obtain ⟨t, z⟩ := p; have := hg _ _ _ _ hq; omega
      · rfl
  | k + 1, k' + 1, x, y, h, h' => by
    rw [rL, rL]
    split
    · rfl
    · split
      · cases hq : g (H.f (valW x).toNat) y with
        | none => rfl
        | some p =>
          obtain ⟨t, z⟩ := p
          have := hg _ _ _ _ hq
          simp only
          rw [rL_more hg k k' _ z (by omega) (by omega)]
      · rfl
theorem text_yes (b p cap : Nat) (l : List Int) (w : World) (hc : ∀ j (hj : j < l.length), w.cell? ⟨b, p + j, none⟩ = some (.int .i64 l[j])) (hl : l.length ≤ 40) (he : l.all isByte = true) :
    Calls Try.prog 125 #[.slice (some ⟨b, p, none⟩) l.length cap] w fun e w' => e = .returned (.string (txtB l)) ∧ Below w.heap.size w w' := by
  refine (textOf_any b p cap l w hc hl).mono ?_
  rintro e w' ⟨⟨_, rfl⟩ | ⟨hh, rfl⟩, hb⟩
  · exact ⟨rfl, hb⟩
  · rw [he] at hh; cases hh
theorem text_no (b p cap : Nat) (l : List Int) (w : World) (hc : ∀ j (hj : j < l.length), w.cell? ⟨b, p + j, none⟩ = some (.int .i64 l[j])) (hl : l.length ≤ 40) (he : l.all isByte = false) :
    Calls Try.prog 125 #[.slice (some ⟨b, p, none⟩) l.length cap] w fun e w' => e = .panicked PN ∧ Below w.heap.size w w' := by
  refine (textOf_any b p cap l w hc hl).mono ?_
  rintro e w' ⟨⟨hh, rfl⟩ | ⟨_, rfl⟩, hb⟩
  · rw [he] at hh; cases hh
  · exact ⟨rfl, hb⟩
def lay4 (w : World) (B : Nat) (a b c d : Value) : World := (((w.setCell ⟨B, 0, none⟩ a).setCell ⟨B, 1, none⟩ b).setCell ⟨B, 2, none⟩ c).setCell ⟨B, 3, none⟩ d
theorem lay4_heap {w : World} {B : Nat} {a b c d : Value} {k : Nat} (h : k ≠ B) : (lay4 w B a b c d).heap[k]? = w.heap[k]? := by
  unfold lay4
  rw [Below.heap_setCell _ ⟨B, 3, none⟩ _ k h, Below.heap_setCell _ ⟨B, 2, none⟩ _ k h, Below.heap_setCell _ ⟨B, 1, none⟩ _ k h, Below.heap_setCell _ ⟨B, 0, none⟩ _ k h]
theorem lay4_cell {w : World} {B : Nat} {a b c d : Value} {k o : Nat} (h : k ≠ B) : (lay4 w B a b c d).cell? ⟨k, o, none⟩ = w.cell? ⟨k, o, none⟩ := World.cell?_of_block (w := w) (lay4_heap h)
theorem lay4_size {w : World} {B : Nat} {a b c d : Value} : (lay4 w B a b c d).heap.size = w.heap.size := by
  unfold lay4
  rw [World.size_setCell, World.size_setCell, World.size_setCell, World.size_setCell]
theorem Turn.keep {cb W : Nat} {w1 w2 : World} {c : Array Value} (t : Turn cb w1 w2) (hn : cb ≠ W) (hlt : W < w1.heap.size) (hq : ∀ o, w1.cell? ⟨W, o, none⟩ = c[o]?) (hf : ∀ o, w1.frozen? ⟨W, o, none⟩ = false) :
    (∀ o, w2.cell? ⟨W, o, none⟩ = c[o]?) ∧ (∀ o, w2.frozen? ⟨W, o, none⟩ = false) :=
  ⟨fun o => by rw [World.cell?_of_block (w := w1) (t.block W hlt (Ne.symm hn))]; exact hq o, fun o => by rw [World.frozen?_of_block (w := w1) (t.block W hlt (Ne.symm hn))]; exact hf o⟩
theorem isW_big {x : Int} (h : isW x = true) : x ≤ 9223372036854775807 := by
  have h0 := isW_ge h
  have hv := isW_val h
  rw [valW_of h0] at hv
  omega
theorem wordsAt_len (H : Hp) (p n : Nat) : (wordsAt H p n).length = n := by simp [wordsAt]
theorem wordsAt_get (H : Hp) (p n j : Nat) (h : j < (wordsAt H p n).length) : (wordsAt H p n)[j] = H.f (p + j) := by simp [wordsAt]
/-- A box that is new at the end, and then a call that writes nothing old. -/
theorem box_two {w5 w7 : World} {c : Array Value} {T : TypeId} (hb : Below (w5.alloc (.cells c T)).heap.size (w5.alloc (.cells c T)) w7) :
    (∀ o, w7.cell? ⟨w5.heap.size, o, none⟩ = c[o]?) ∧ (∀ k, k < w5.heap.size → w7.heap[k]? = w5.heap[k]?) ∧ w5.heap.size + 1 ≤ w7.heap.size ∧ w7.os = w5.os ∧ w7.tape = w5.tape ∧ w7.output = w5.output := by
  have hs : (w5.alloc (.cells c T)).heap.size = w5.heap.size + 1 := World.size_alloc _ _
  refine ⟨fun o => ?_, fun k hk => ?_, by rw [← hs]; exact hb.size, hb.os, hb.tape, hb.output⟩
  · rw [hb.cell (p := ⟨w5.heap.size, o, none⟩) (by rw [hs]; exact Nat.lt_succ_self _)]
    exact World.cell?_alloc_new w5 c T o
  · rw [hb.block k (by rw [hs]; omega)]
    show (w5.heap.push _)[k]? = _
    rw [Array.getElem?_push, if_neg (by omega)]
theorem turn_two {cb : Nat} {w5 w7 : World} (hk : ∀ k, k < w5.heap.size → w7.heap[k]? = w5.heap[k]?) (hs : w5.heap.size + 1 ≤ w7.heap.size) (h1 : w7.os = w5.os) (h2 : w7.tape = w5.tape) (h3 : w7.output = w5.output) : Turn cb w5 w7 :=
  ⟨h1, h2, h3, by omega, fun k hkl _ => hk k hkl⟩
theorem rT_isW {H : Hp} {d : Nat} {x : Int} {left : Nat} (h : isW x = false) : rT true H d x left = none := by
  cases d with
  | zero => rw [rT]
  | succ d => rw [rT, if_neg (by simp [h])]
theorem rT_left {H : Hp} {d : Nat} {x : Int} : rT true H d x 0 = none := by
  cases d with
  | zero => rw [rT]
  | succ d => rw [rT, if_neg (by simp)]
theorem rT_on {H : Hp} {d : Nat} {x : Int} {k : Nat} (h : isW x = true) : rT true H (d + 1) x (k + 1) = held true (raw true H (rT true H d) x k) := by
  rw [rT, if_pos ⟨by simpa using h, by omega⟩]; rfl
/-- The words and the atoms are there. -/
structure Src (E : Env) (w : World) : Prop where
  ok : E.H.ok
  wl : E.H.N ≠ 0 → E.wv = some ⟨E.b, E.o, none⟩
  al : E.H.A.length ≠ 0 → E.av = some ⟨E.ab, E.ao, none⟩
  ws : ∀ j, j < E.H.N → w.cell? ⟨E.b, E.o + j, none⟩ = some (.int .i64 (E.H.f j))
  ats : Txt w E.ab E.ao E.H.A
  cp : E.H.N ≤ E.cap
  big : ∀ j, E.H.f j ≤ 9223372036854775807
  txt : ∀ s, s ∈ E.H.A → s.size ≤ 1048576
theorem big_txt {A : List ByteArray} (h : ∀ s, s ∈ A → s.size ≤ 1048576) : ∀ s, s ∈ A → s.size ≤ maxLen := fun s hs => Nat.le_trans (h s hs) (by unfold maxLen; omega)
theorem Src.below {E : Env} {w w' : World} (h : Src E w) (hb : Below w.heap.size w w') : Src E w' := by
  have e : ∀ b o v, w.cell? ⟨b, o, none⟩ = some v → w'.cell? ⟨b, o, none⟩ = some v := fun b o v hc => by
    rw [hb.cell (p := ⟨b, o, none⟩) (World.block_lt_of_cell? w _ hc)]; exact hc
  exact ⟨h.ok, h.wl, h.al, fun j hj => e _ _ _ (h.ws j hj), h.ats.below hb, h.cp, h.big, h.txt⟩
abbrev zT : Value := .agg #[.int .i64 0, .int .i64 0, .string ⟨#[]⟩, .slice none 0 0]
theorem lay4_below {B : Nat} {W w : World} (h : Below B W w) {g : Nat} (hg : B ≤ g) (a b c d : Value) : Below B W (lay4 w g a b c d) :=
  (((h.setCell (p := ⟨g, 0, none⟩) hg a).setCell (p := ⟨g, 1, none⟩) hg b).setCell (p := ⟨g, 2, none⟩) hg c).setCell (p := ⟨g, 3, none⟩) hg d
theorem two_far {w5 : World} {B1 B2 k o : Nat} {a b c d v : Value} (h1 : k ≠ B1) (h2 : k ≠ B2) : ((lay4 w5 B1 a b c d).setCell ⟨B2, 0, none⟩ v).cell? ⟨k, o, none⟩ = w5.cell? ⟨k, o, none⟩ := by
  rw [World.cell?_setCell_other (h := fun e => by simp at e <;> omega), lay4_cell h1]
end Go.Proofs.Ytabgfaafpgholaa
namespace Go.Proofs.Ytabgfaafpgholaa
open Go.RowKit Go.Lib
set_option linter.unusedVariables false

theorem run_append_room_zeros {P : Program} (w : World) (t tn ty e : TypeId) (i : TypeInfo) (z : Value) (kq kn : IntKind) (ht : P.underlying t = some (.slice e)) (htn : P.underlying tn = some (.int kn)) (hi : P.info? e = some i) (hz : i.zero = some z) (hzs : z.cells.size = i.size)
    (g sLen sCap : Nat) (cur : Array Value) (hg : w.heap[g]? = some (.cells cur e (0, 0))) (k : Nat) (h0 : 0 < k) (hs : 0 < i.size) (h1 : ∀ u ∈ (Builtin.zeroCells z.cells k).toList, u.oneCell' = true)
    (hroom : sLen + k ≤ sCap) (hk : (k : Int) ≤ 9223372036854775807) (h48 : k * i.bytes ≤ 281474976710656) (hfit : sLen * i.size + k * i.size ≤ cur.size) :
    (Builtin.append_ #[t, tn] ty #[.slice (some ⟨g, 0, none⟩) sLen sCap, .int kq k]).run P w =
      .ok (.slice (some ⟨g, 0, none⟩) (sLen + k) sCap) (w.setRow g (cur.toList.take (sLen * i.size) ++ (Builtin.zeroCells z.cells k).toList ++ cur.toList.drop (sLen * i.size + k * i.size)).toArray) := by
  have hlen : (Builtin.zeroCells z.cells k).toList.length = k * i.size := by rw [Array.length_toList, size_zeroCells, hzs]
  have hst := run_storeCells_at P g (sLen * i.size) e (Builtin.zeroCells z.cells k).toList 0 cur w hg (by rw [hlen]; simpa using hfit) h1
  simp only [Nat.add_zero] at hst
  rw [hlen] at hst
  have hw : IntKind.i64.wrap (k : Int) = k := by rw [IntKind.wrap_i64]; omega
  have hkn : k ≠ 0 := by omega
  have hneg : ¬ ((k : Int) < 0) := by omega
  have h48i : ¬ (281474976710656 < (k : Int) * (i.bytes : Int)) := by
    rw [← Int.natCast_mul]
    omega
  have hns : ¬ (k * i.size = 0) := Nat.mul_ne_zero hkn (by omega)
  simp [Builtin.append_, run_underlying ht, run_underlying htn, sizeOf, typeInfo, zeroValue, hi, hz, asInt, asIntOf, hw, hroom, hneg, hns, h48i, Addr.add_lit, hst]
/-- So many zeros more, on a row that the call owns. -/
theorem run_append_zeros_own {P : Program} (w : World) (base : Nat) (t tn ty e : TypeId) (i : TypeInfo) (z : Value) (kq kn : IntKind) (ht : P.underlying t = some (.slice e)) (htn : P.underlying tn = some (.int kn)) (hi : P.info? e = some i) (hz : i.zero = some z) (hsize : i.size = 1) (hby : i.bytes = 8) (hzc : z.cells = #[z]) (hz1 : z.oneCell' = true)
    (v : Value) (n : Nat) (xs : List Value) (hown : w.ownsRow base e 1 v n xs) (k : Nat) (hnk : n + k ≤ 1000000) (hbase : base ≤ w.heap.size) :
    ∃ v' w', (Builtin.append_ #[t, tn] ty #[v, .int kq k]).run P w = .ok v' w' ∧ w'.ownsRow base e 1 v' (n + k) (xs ++ List.replicate k z) ∧ w.grownBy w' v.ownBlock ∧ (v'.ownBlock = v.ownBlock ∨ v'.ownBlock = some w.heap.size) := by
  have hzs : z.cells.size = i.size := by rw [hzc, hsize]; rfl
  have hzl : ∀ m, (Builtin.zeroCells z.cells m).toList = List.replicate m z := fun m => by
    rw [hzc]
    simp only [Builtin.zeroCells, Array.toList_map, Array.toList_range]
    rw [List.eq_replicate_iff]
    refine ⟨by simp, fun u hu => ?_⟩
    obtain ⟨j, _, rfl⟩ := List.mem_map.1 hu
    have e : j % (#[z] : Array Value).size = 0 := by show j % 1 = 0; omega
    rw [e]
    rfl
  have h1 : ∀ u ∈ (Builtin.zeroCells z.cells k).toList, u.oneCell' = true := fun u hu => by
    rw [hzl] at hu
    rw [List.eq_of_mem_replicate hu]
    exact hz1
  have hxl : xs.length = n := by have := hown.1; omega
  have hml : n + k ≤ maxLen := by unfold maxLen; omega
  have hlen : (xs ++ List.replicate k z).length = (n + k) * 1 := by rw [List.length_append, List.length_replicate, hxl]; omega
  have hw : IntKind.i64.wrap (k : Int) = k := by rw [IntKind.wrap_i64]; omega
  by_cases hk0 : k = 0
  · subst hk0
    have hw0 : IntKind.i64.wrap 0 = 0 := by rw [IntKind.wrap_i64]; decide
    refine ⟨v, w, ?_, by simpa using hown, ⟨rfl, rfl, rfl, Nat.le_refl _, fun _ _ _ => rfl⟩, .inl rfl⟩
    rcases hown.2 with ⟨rfl, rfl⟩ | ⟨g, cap, cur, rfl, hbg, hg, hnc, hcm, hcs, htake⟩
    · simp [Builtin.append_, run_underlying ht, run_underlying htn, sizeOf, typeInfo, hi, asInt, asIntOf, hw0]
    · simp [Builtin.append_, run_underlying ht, run_underlying htn, sizeOf, typeInfo, hi, asInt, asIntOf, hw0, hnc, Addr.add_lit, storeCells]
  have hkp : 0 < k := by omega
  have grown : ∀ (old : Nat), old < n + k → ∀ (row : Option Nat),
      (w.drew.alloc (.cells (xs.toArray ++ Builtin.zeroCells z.cells k ++ Builtin.zeroCells z.cells (grownCap w (n + k) old e - (n + k))) e)).ownsRow base e 1
        (.slice (some ⟨w.heap.size, 0, none⟩) (n + k) (grownCap w (n + k) old e)) (n + k) (xs ++ List.replicate k z) ∧
      w.grownBy (w.drew.alloc (.cells (xs.toArray ++ Builtin.zeroCells z.cells k ++ Builtin.zeroCells z.cells (grownCap w (n + k) old e - (n + k))) e)) row := by
    intro old ho row
    have hge := grownCap_ge w (n + k) old e
    have hcm : grownCap w (n + k) old e ≤ maxLen := grownCap_le_maxLen w (n + k) old e hml
    refine ⟨⟨hlen, .inr ⟨w.heap.size, _, _, rfl, hbase, Go.heap_alloc_new w.drew _, hge, hcm, ?_, ?_⟩⟩, ⟨rfl, rfl, rfl, by simp, fun j hj _ => Go.heap_alloc_old w.drew _ hj⟩⟩
    · simp only [Array.size_append, List.size_toArray, size_zeroCells, hzs, hsize, hxl]
      omega
    · simp only [Array.toList_append, hzl, List.append_assoc]
      rw [← List.append_assoc, ← hlen]
      exact List.take_left
  rcases hown.2 with ⟨rfl, rfl⟩ | ⟨g, cap, cur, rfl, hbg, hg, hnc, hcm, hcs, htake⟩
  · have hx : xs = [] := List.eq_nil_of_length_eq_zero hxl
    subst hx
    have hr := run_append_grow_zeros (P := P) w t tn ty e i z kq kn ht htn hi hz none 0 0 [] (by simp [Builtin.firstCells]) k hkp (by omega) (by omega) (by omega) (by rw [hby]; omega) (growslice_fits (by omega) (by rw [hby]; omega))
    have hgr := grown 0 (by omega) (Value.ownBlock (.slice none 0 0))
    exact ⟨_, _, hr, hgr.1, hgr.2, .inr rfl⟩
  · by_cases hroom : n + k ≤ cap
    · have hfit : n * i.size + k * i.size ≤ cur.size := by rw [hcs, hsize]; omega
      have hr := run_append_room_zeros (P := P) w t tn ty e i z kq kn ht htn hi hz hzs g n cap cur hg k hkp (by omega) h1 hroom (by omega) (by rw [hby]; omega) hfit
      refine ⟨_, _, hr, ⟨hlen, .inr ⟨g, cap, _, rfl, hbg, setRow_heap w g cur _ e _ hg, hroom, hcm, ?_, ?_⟩⟩, ⟨rfl, rfl, rfl, by simp, fun j _ hj => setRow_other w g j _ (fun e => hj (by simp [Value.ownBlock, e]))⟩, .inl rfl⟩
      · simp only [hzl, hsize, List.size_toArray, List.length_append, List.length_take, List.length_drop, List.length_replicate, Array.length_toList]
        omega
      · rw [hsize, htake, hzl, ← hlen]
        exact List.take_left
    · have holds : ∀ j u, xs[j]? = some u → w.cell? ((⟨g, 0, none⟩ : Addr).add j) = some u := hown.cells (g := g) rfl
      have hf := run_firstCells_some (P := P) w.drew i.size n ⟨g, 0, none⟩ n cap xs (by rw [hsize]; exact hown.1) (by simpa using holds)
      have hr := run_append_grow_zeros (P := P) w t tn ty e i z kq kn ht htn hi hz (some ⟨g, 0, none⟩) n cap xs hf k hkp (by omega) (by omega) (by omega) (by rw [hby]; omega) (growslice_fits (by omega) (by rw [hby]; omega))
      have hgr := grown cap (by omega) (Value.ownBlock (.slice (some ⟨g, 0, none⟩) n cap))
      exact ⟨_, _, hr, hgr.1, hgr.2, .inr rfl⟩
/-- At a step of a region that draws its order. -/
theorem step_append_zeros {P : Program} (w : World) {ops : Array Oper} {o : Oper} {a : Act} {K : Act → World → Prop} {Q : Exit → Act → World → Prop} {E : Prop} (hgd : o.guard = none) (s x : Operand) (t tn : TypeId)
    (ho : o.op = .call { callee := .builtin .append, args := #[s, x], argTypes := #[t, tn] })
    (base : Nat) (e : TypeId) (i : TypeInfo) (z : Value) (kq kn : IntKind) (ht : P.underlying t = some (.slice e)) (htn : P.underlying tn = some (.int kn)) (hi : P.info? e = some i) (hz : i.zero = some z) (hsize : i.size = 1) (hby : i.bytes = 8) (hzc : z.cells = #[z]) (hz1 : z.oneCell' = true)
    (v : Value) (n : Nat) (xs : List Value) (hs : a.eval s = v) (hown : w.ownsRow base e 1 v n xs) (k : Nat) (hx : a.eval x = .int kq k) (hnk : n + k ≤ 1000000) (hbase : base ≤ w.heap.size)
    (h : ∀ v' w', w'.ownsRow base e 1 v' (n + k) (xs ++ List.replicate k z) → w.grownBy w' v.ownBlock → (v'.ownBlock = v.ownBlock ∨ v'.ownBlock = some w.heap.size) → K (a.put o.dst v') w') :
    if Region.wanted o (yielded ops a.tmps) = true then Oper.wp P o a w K Q else E := by
  have hwn : Region.wanted o (yielded ops a.tmps) = true := by simp [Region.wanted, hgd]
  rw [if_pos hwn]
  obtain ⟨v', w', hr, h2, h3, h4⟩ := run_append_zeros_own (P := P) w base t tn o.type e i z kq kn ht htn hi hz hsize hby hzc hz1 v n xs hown k hnk hbase
  unfold Oper.wp execOp
  simp only [ho, resolve, invoke, builtin, Sem.run_bind, Sem.run_pure, Result.andThen_ok, List.map_toArray, List.map_cons, List.map_nil, hs, hx, hr]
  exact h v' w' h2 h3 h4
end Go.Proofs.Ytabgfaafpgholaa
