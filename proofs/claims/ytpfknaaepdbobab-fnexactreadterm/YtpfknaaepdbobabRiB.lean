/-
  How the program reads words: bytes as a text; terms that are gathered one by one.
-/
import Derived.Test.YtpfknaaepdbobabRiA
import Derived.Maps.AppendAt
import Derived.Laws.OwnMore
import Derived.Laws.IdiomStrings
namespace Go.Proofs.Ytpfknaaepdbobab
open Go.RowKit
set_option linter.unusedVariables false

theorem infoParts {e : TypeId} {z : Value} {n b : Nat} (h : (Try.prog.info? e).map (fun i => (i.zero, i.size, i.bytes)) = some (some z, n, b)) : ∃ i, Try.prog.info? e = some i ∧ i.zero = some z ∧ i.size = n ∧ i.bytes = b := by
  obtain ⟨i, hi, hh⟩ := Option.map_eq_some_iff.1 h
  simp only [Prod.mk.injEq] at hh
  exact ⟨i, hi, hh.1, hh.2.1, hh.2.2⟩
theorem infoU8 : (Try.prog.info? 5).map (fun i => (i.zero, i.size, i.bytes)) = some (some (.int .u8 0), 1, 1) := by kernel_rfl
theorem undU8s : Try.prog.underlying 63 = some (.slice 5) := by kernel_rfl
theorem infoTm : (Try.prog.info? 30).map (fun i => (i.zero, i.size, i.bytes)) = some (some (.agg #[.int .i64 0, .int .i64 0, .string ⟨#[]⟩, .slice none 0 0]), 4, 56) := by kernel_rfl
theorem undTms : Try.prog.underlying 28 = some (.slice 30) := by kernel_rfl

/-- v is the bytes xs, in a block of its own from base on. -/
def Own8 (w : World) (base : Nat) (v : Value) (xs : List Int) : Prop := ∃ g cc, v = .slice (some ⟨g, 0, none⟩) xs.length cc ∧ w.ownsRow base 5 1 v xs.length (xs.map (Value.int .u8))
theorem own8_of {w : World} {base : Nat} {v : Value} {n : Nat} {xs : List Int} (h : w.ownsRow base 5 1 v n (xs.map (Value.int .u8))) (hn : v ≠ .slice none 0 0) : Own8 w base v xs := by
  have hl : n = xs.length := by have := h.1; simp at this; omega
  subst hl
  rcases h.2 with ⟨h0, _⟩ | ⟨g, cap, cur, h1, _⟩
  · exact absurd h0 hn
  · exact ⟨g, cap, h1, h⟩
theorem own8_start (w : World) : Own8 (w.alloc (.cells #[] 5)) w.heap.size (.slice (some ⟨w.heap.size, 0, none⟩) 0 0) [] := ⟨_, 0, rfl, World.ownsRow_made w #[] 0 (Nat.le_refl _) (Nat.zero_le _) rfl⟩
theorem src8 (w : World) (x : Int) (t : TypeId) : ∀ j u, [Value.int .u8 x][j]? = some u → (w.alloc (.cells #[.int .u8 x] t)).cell? ((⟨w.heap.size, 0, none⟩ : Addr).add j) = some u := fun j u hu => by
  rw [Addr.add_lit, Nat.zero_add, World.cell?_alloc_new]
  simpa using hu
theorem one8 (x : Int) : ∀ u ∈ [Value.int .u8 x], u.oneCell' = true := fun u hu => by
  obtain rfl : u = .int .u8 x := by simpa using hu
  rfl
theorem isByte_wrap {x : Int} (h : isByte x = true) : IntKind.u8.wrap x = x := by
  unfold isByte at h
  simp at h
  rw [IntKind.wrap_u8]
  omega
/-- The text of bytes that are all there. -/
theorem conv8 {w : World} {base g cc : Nat} {xs : List Int} (h : w.ownsRow base 5 1 (.slice (some ⟨g, 0, none⟩) xs.length cc) xs.length (xs.map (Value.int .u8))) (hy : ∀ x ∈ xs, isByte x = true) :
    (convert 63 9 (.slice (some ⟨g, 0, none⟩) xs.length cc)).run Try.prog w = .ok (.string (txtB xs)) w := by
  have := run_convert_bytes_back (P := Try.prog) w 63 9 5 ⟨g, 0, none⟩ cc (xs.map fun x => UInt8.ofNat x.toNat) Try.underlying63 Try.underlying5 Try.underlying9 (fun j hj => by
    have hj' : j < xs.length := by simpa using hj
    rw [Addr.add_lit, Nat.zero_add, h.cellAt j (by omega)]
    simp only [List.getElem?_map, List.getElem?_eq_getElem hj', Option.map_some, List.getElem_map]
    have hb := hy _ (List.getElem_mem hj')
    unfold isByte at hb
    simp at hb
    congr 2
    simp
    omega)
  rw [List.length_map] at this
  exact this

set_option maxHeartbeats 1000000 in
set_option maxRecDepth 100000 in
theorem textOf_any (b p cap : Nat) (l : List Int) (w : World) (hc : ∀ j (hj : j < l.length), w.cell? ⟨b, p + j, none⟩ = some (.int .i64 l[j])) (hl : l.length ≤ 40) :
    Calls Try.prog 54 #[.slice (some ⟨b, p, none⟩) l.length cap] w fun e w' => (l.all isByte = true ∧ e = .returned (.string (txtB l)) ∨ l.all isByte = false ∧ e = .panicked PN) ∧ Below w.heap.size w w' := by
  have HC : Hid (∀ j (hj : j < l.length), w.cell? ⟨b, p + j, none⟩ = some (.int .i64 l[j])) := hc
  clear hc
  obtain ⟨i0, hi, hz0, hz1, hz2⟩ := infoParts infoU8
  have HI : Hid (Try.prog.info? 5 = some i0 ∧ i0.zero = some (.int .u8 0) ∧ i0.size = 1 ∧ i0.bytes = 1) := ⟨hi, hz0, hz1, hz2⟩
  clear hi hz0 hz1 hz2
  go_enter Try.func54, Try.ntmps54
  go_wp2_with fail
  go_loopw [3, 9] (fun v i wr => ∃ m : Nat, m ≤ l.length ∧ i = .int .i64 m ∧ Own8 wr w.heap.size v (l.take m) ∧ (∀ x ∈ l.take m, isByte x = true) ∧ Below w.heap.size w wr) (fun _ i _ => l.length - (intOf i).toNat)
  case atStart => exact ⟨0, Nat.zero_le _, rfl, own8_start w, by simp, (Below.refl _ _).alloc (Nat.le_refl _) _⟩
  case round =>
    obtain ⟨m, hm, rfl, ho, hy, hb⟩ := hrel
    have HY : Hid (∀ x ∈ l.take m, isByte x = true) := hy
    have HB : Hid (Below w.heap.size w wr) := hb
    obtain ⟨g, cc, rfl, hown⟩ := ho
    have htl : (l.take m).length = m := by simp; omega
    have HO : Hid (wr.ownsRow w.heap.size 5 1 (.slice (some ⟨g, 0, none⟩) m cc) m ((l.take m).map (Value.int .u8))) := by rw [htl] at hown; exact hown
    rw [htl]
    clear hy hb hown htl
    by_cases hlt : m < l.length
    · have q : wr.cell? ⟨b, p + m, none⟩ = some (.int .i64 l[m]) := by
        rw [HB.out.cell (p := ⟨b, p + m, none⟩) (World.block_lt_of_cell? w _ (HC.out m hlt))]; exact HC.out m hlt
      have HX : Hid (l.take (m + 1) = l.take m ++ [l[m]]) := by show _ = _; rw [List.take_add_one, List.getElem?_eq_getElem hlt]; rfl
      have HM : Hid (l[m] ∈ l) := List.getElem_mem hlt
      generalize l[m] = x at *
      cases hx : isByte x with
      | true =>
        have hx0 : 0 ≤ x ∧ x ≤ 255 := by simpa [isByte] using hx
        have hx1 := hx0.1
        have hx2 := hx0.2
        have hxw := isByte_wrap hx
        have HXB : Hid (isByte x = true) := hx
        clear hx hx0
        have HO2 : Hid ((wr.alloc (.cells #[.int .u8 x] 5)).ownsRow w.heap.size 5 1 (.slice (some ⟨g, 0, none⟩) m cc) m ((l.take m).map (Value.int .u8))) := HO.out.alloc _
        have HL2 : Hid ([Value.int .u8 x].length = 1 * 1) := rfl
        have C3 : Hid (m + 1 ≤ maxLen) := by show _ ≤ _; unfold maxLen; omega
        have C4 : Hid ((m + 1) * 1 ≤ 140737488355328) := by show _ ≤ _; omega
        have HB2 : Hid (Below w.heap.size w (wr.alloc (.cells #[.int .u8 x] 5))) := HB.out.alloc HB.out.size _
        go_wp2_with (first | (go_at_call 35; refine (insist_yes _).mono ?_; rintro e w' ⟨rfl, rfl⟩) | (at_builtin; refine wpList_append_own_at _ rfl _ _ 63 rfl w.heap.size 5 i0 (.int .u8 0) 1 1 undU8s HI.out.1 HI.out.2.1 HI.out.2.2.1 HI.out.2.2.2 rfl Nat.zero_lt_one _ m _ rfl HO2.out ⟨_, 0, none⟩ 1 1 [.int .u8 x] rfl HL2.out (src8 _ x _) (one8 x) C3.out C4.out HB2.out.size ?_; intro v5 w5 hown5 hgr5 hnn5 hat5))
        go_roundw
        case rel =>
          refine ⟨m + 1, by omega, by go_num, ?_, ?_, ?_⟩
          · rw [HX.out]
            refine own8_of (n := m + 1) (by rw [List.map_append]; exact hown5) (fun e => by have := (hnn5.1 e).1; cases this)
          · rw [HX.out]
            intro y hy
            rcases List.mem_append.1 hy with hy | hy
            · exact HY.out y hy
            · obtain rfl : y = x := by simpa using hy
              exact HXB.out
          · exact HB2.out.grown hgr5 HB2.out.size (fun k hk => (HO2.out.lt k hk).1)
        case measure => simp [intOf]; omega
      | false =>
        have hx0 : x < 0 ∨ 255 < x := by simp [isByte] at hx; omega
        have HXB : Hid (l.all isByte = false) := by
          show _ = _
          rw [List.all_eq_false]
          exact ⟨x, HM.out, by rw [hx]; simp⟩
        clear hx
        rcases hx0 with hx0 | hx0
        · go_wp2_with (first | (go_at_call 35; refine (insist_no _).mono ?_; rintro e w' ⟨rfl, rfl⟩))
          exact ⟨rfl, .inr ⟨HXB.out, rfl⟩, HB.out⟩
        · have hx1 : 0 ≤ x := by omega
          have hd : decide (x ≤ 255) = false := by simp; omega
          go_wp2_with (first | (go_at_call 35; refine (insist_no _).mono ?_; rintro e w' ⟨rfl, rfl⟩))
          exact ⟨rfl, .inr ⟨HXB.out, rfl⟩, HB.out⟩
    · have hml : m = l.length := by omega
      have htk : l.take m = l := by rw [hml]; simp
      rw [htk] at HO HY
      have HO' : Hid (wr.ownsRow w.heap.size 5 1 (.slice (some ⟨g, 0, none⟩) l.length cc) l.length (l.map (Value.int .u8))) := by show World.ownsRow ..; rw [← hml]; exact HO.out
      have hcv := conv8 HO'.out HY.out
      rw [← hml] at hcv
      have HA : Hid (l.all isByte = true) := by show _ = _; rw [List.all_eq_true]; exact HY.out
      clear htk hml
      go_wp2_with fail
      go_ret
      exact ⟨.inl ⟨HA.out, rfl⟩, HB.out⟩

/-! ### Terms that are gathered -/
/-- In blocks that were there nothing turns but in one. -/
theorem Rr.same {E : Env} {l0 left : Nat} {w w1 w2 : World} (h0 : Rr E l0 w) (h : Rr E left w1) (hk : ∀ k, k < w.heap.size → w2.heap[k]? = w1.heap[k]?) : Rr E left w2 := by
  have e : ∀ b o, b < w.heap.size → w2.cell? ⟨b, o, none⟩ = w1.cell? ⟨b, o, none⟩ := fun b o hb => World.cell?_of_block (w := w1) (hk b hb)
  have hr := h0.lt
  exact ⟨by rw [e _ _ hr]; exact h.c0, by rw [e _ _ hr]; exact h.c1, by rw [e _ _ hr]; exact h.c2, by rw [World.frozen?_of_block (w := w1) (hk E.rb hr)]; exact h.fr, h.ok, h.wl, h.al,
    fun j hj => by rw [e _ _ (World.block_lt_of_cell? w _ (h0.ws j hj))]; exact h.ws j hj, fun j hj => by rw [e _ _ (World.block_lt_of_cell? w _ (h0.ats j hj))]; exact h.ats j hj, h.wn, h.an, h.cp, h.big, h.txt⟩
structure GI (E : Env) (w wr : World) (l : List Tm) (u : Value) (xs : List Value) (left : Nat) : Prop where
  turn : Turn E.rb w wr
  rr : Rr E left wr
  rr0 : ∃ l0, Rr E l0 w
  own : wr.ownsRow w.heap.size 30 4 u l.length xs
  row : Row (fun b => w.heap.size ≤ b ∧ u.ownBlock ≠ some b) wr l xs
theorem GI.start {E : Env} {left : Nat} {w : World} (h : Rr E left w) : GI E w w [] (.slice none 0 0) [] left :=
  ⟨Turn.refl _ _, h, ⟨left, h⟩, ⟨rfl, Or.inl ⟨rfl, rfl⟩⟩, Row.nil _ _⟩
theorem GI.form {E : Env} {w wr : World} {l : List Tm} {u : Value} {xs : List Value} {left : Nat} (h : GI E w wr l u xs left) : ∃ ua uc, u = .slice ua l.length uc := by
  rcases h.own.2 with ⟨rfl, h0⟩ | ⟨g, cap, cur, rfl, _⟩
  · exact ⟨none, 0, by rw [h0]⟩
  · exact ⟨_, _, rfl⟩
theorem GI.call {E : Env} {w wr w1 : World} {l : List Tm} {u : Value} {xs : List Value} {left left' : Nat} (h : GI E w wr l u xs left) (ht : Turn E.rb wr w1) (hr : Rr E left' w1) : GI E w w1 l u xs left' := by
  obtain ⟨l0, h0⟩ := h.rr0
  have hlt := h0.lt
  refine ⟨h.turn.trans ht, hr, h.rr0, h.own.kept ht.grown (Or.inr (fun e => ?_)), h.row.1, fun i hi => (h.row.2 i hi).move (Moves.turn (fun b hb e => ?_) ht)⟩
  · have := (h.own.lt _ e).1; omega
  · have := hb.1; omega
/-- One more is read, laid down in a block of its own, and appended. -/
theorem GI.more {E : Env} {w wr w1 w2 : World} {l : List Tm} {u v : Value} {xs : List Value} {left left' : Nat} (h : GI E w wr l u xs left) (ht : Turn E.rb wr w1) (hr : Rr E left' w1)
    {t : Tm} {a b c d : Value} (hv : RpV (fun b => wr.heap.size ≤ b) w1 t (.agg #[a, b, c, d])) {o : Obj}
    (hown : w2.ownsRow w.heap.size 30 4 v (l.length + 1) (xs ++ [a, b, c, d])) (hgrow : (w1.alloc o).grownBy w2 u.ownBlock) (hat : v.ownBlock = u.ownBlock ∨ v.ownBlock = some (w1.alloc o).heap.size) :
    GI E w w2 (l ++ [t]) v (xs ++ [a, b, c, d]) left' := by
  have h1 := h.call ht hr
  obtain ⟨l0, h0⟩ := h.rr0
  have hs1 : (w1.alloc o).heap.size = w1.heap.size + 1 := World.size_alloc _ _
  have hz1 := h1.turn.size
  have hz2 := ht.size
  have hun : ∀ k, k < w.heap.size → some k ≠ u.ownBlock := fun k hk e => by have := (h.own.lt k e.symm).1; omega
  have hk : ∀ k, k < w.heap.size → w2.heap[k]? = w1.heap[k]? := fun k hkt => by
    rw [hgrow.block k (by rw [hs1]; omega) (hun k hkt)]
    show (w1.heap.push _)[k]? = _
    rw [Array.getElem?_push, if_neg (by omega)]
  have hcell : ∀ p o' v, some p ≠ u.ownBlock → w1.cell? ⟨p, o', none⟩ = some v → w2.cell? ⟨p, o', none⟩ = some v := fun p o' v hp hc => by
    have hpl := World.block_lt_of_cell? w1 _ hc
    rw [hgrow.cell_far ⟨p, o', none⟩ (by rw [hs1]; exact Nat.lt_succ_of_lt hpl) hp, World.cell?_alloc_lt (h := hpl)]; exact hc
  have hvo : ∀ p, p < w1.heap.size → u.ownBlock ≠ some p → v.ownBlock ≠ some p := fun p hp hn e => by
    rcases hat with hat | hat
    · rw [hat] at e; exact hn e
    · rw [hat, hs1] at e
      injection e with e
      omega
  have hmv : Moves (fun b => w.heap.size ≤ b ∧ u.ownBlock ≠ some b) (fun b => w.heap.size ≤ b ∧ v.ownBlock ≠ some b) w1 w2 := fun p o' v' hp hc =>
    ⟨⟨hp.1, hvo p (World.block_lt_of_cell? w1 _ hc) hp.2⟩, hcell p o' v' (fun e => hp.2 e.symm) hc⟩
  have hmn : Moves (fun b => wr.heap.size ≤ b) (fun b => w.heap.size ≤ b ∧ v.ownBlock ≠ some b) w1 w2 := fun p o' v' hp hc => by
    have hpo : u.ownBlock ≠ some p := fun e => by have := (h.own.lt p e).2; omega
    exact ⟨⟨by have := h.turn.size; omega, hvo p (World.block_lt_of_cell? w1 _ hc) hpo⟩, hcell p o' v' (fun e => hpo e.symm) hc⟩
  have t1 := h1.turn
  refine ⟨⟨hgrow.os.trans t1.os, hgrow.tape.trans t1.tape, hgrow.output.trans t1.output, by have := hgrow.size; omega, fun k hkl hkn => (hk k hkl).trans (t1.block k hkl hkn)⟩, h0.same hr hk, h.rr0, ?_, Row.snoc hmv h1.row (hmn.repV hv)⟩
  rw [List.length_append]
  exact hown
theorem GI.list {E : Env} {w wr : World} {l : List Tm} {u : Value} {xs : List Value} {left : Nat} (h : GI E w wr l u xs left) :
    ∃ ao cap, u = .slice ao l.length cap ∧ l.length ≤ cap ∧ cap ≤ maxLen ∧ RpL (fun b => w.heap.size ≤ b) wr l ao :=
  h.row.repL (fun b hb => hb.1) h.own (fun g hg => (h.own.lt g hg).1)
/-- v is the list l, new behind w. -/
def IsL (w w' : World) (v : Value) (l : List Tm) : Prop := ∃ ao cap, v = .slice ao l.length cap ∧ l.length ≤ cap ∧ cap ≤ maxLen ∧ RpL (fun b => w.heap.size ≤ b) w' l ao
theorem four8 {w : World} {a b c d : Value} {t : TypeId} : ∀ j u, [a, b, c, d][j]? = some u → (w.alloc (.cells #[a, b, c, d] t)).cell? ((⟨w.heap.size, 0, none⟩ : Addr).add j) = some u := fun j u hu =>
  World.news_of_block (w := w.alloc (.cells #[a, b, c, d] t)) (B := w.heap.size) (cs := #[a, b, c, d]) (t := t) (fr := (0, 0)) (by show (w.heap.push _)[w.heap.size]? = _; simp) j u hu
end Go.Proofs.Ytpfknaaepdbobab
