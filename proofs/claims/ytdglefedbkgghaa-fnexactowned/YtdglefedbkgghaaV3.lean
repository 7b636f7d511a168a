/-
  The laws' copy of a system on heaps: all of it can be read of the copy.
  (Ahead of it, in this text: A system on heaps in memory, read: its code, its atoms, its arena, its cells, what was said; how the laws measure it.)
-/
import Derived.Test.YtdglefedbkgghaaV2
namespace Go.Proofs.Ytdglefedbkgghaa
open Go.RowKit Atom
open Go.Proofs.Ytdglefedbkgghaa.Code
set_option linter.unusedVariables false

theorem szArenaH_any (ao : Option Addr) (N cap : Nat) (left : Int) (hN : N ≤ maxLen) (h0 : 0 ≤ left ∧ left ≤ 1048576) (w : World) :
    Calls Try.prog 14 #[.agg #[.slice ao N cap], .int .i64 left] w fun e w' => e = .returned (.int .i64 (szI N left)) ∧ Below w.heap.size w w' := by
  have HN : Hid (N ≤ maxLen) := hN
  have hge := szI_ge N left
  go_enter Try.func14, Try.ntmps14
  go_wp2_with fail
  refine (szIntS_any ao N cap left HN.out h0 _).mono ?_
  rintro e w1 ⟨rfl, rfl⟩
  obtain ⟨y, hyy⟩ : ∃ y, szI N left = y := ⟨_, rfl⟩
  rw [hyy] at hge ⊢
  have HE : Hid (szI N left = y) := hyy
  clear hyy
  by_cases hy : y < 0
  · have e : y = -1 := by omega
    subst e
    go_wp2_with fail
    go_ret
    exact ⟨ret_int HE.out.symm, (Below.refl _ _).alloc (Nat.le_refl _) _⟩
  · go_wp2_with fail
    go_ret
    exact ⟨ret_int HE.out.symm, (Below.refl _ _).alloc (Nat.le_refl _) _⟩

set_option maxHeartbeats 1000000 in
set_option maxRecDepth 100000 in
theorem toArenaH_any (ao : Option Addr) (N cap : Nat) (f : Nat → Int) (w : World) (hr : RdI w ao N f) (hN : N ≤ 1048576) :
    Calls Try.prog 22 #[.agg #[.slice ao N cap]] w fun e w' => ∃ g, e = .returned (.agg #[.slice (some ⟨g, 0, none⟩) N N]) ∧ w.heap.size ≤ g ∧ Ints w' g 0 N f ∧ g < w'.heap.size ∧ Below w.heap.size w w' := by
  have HR : Hid (RdI w ao N f) := hr
  clear hr
  go_enter Try.func22, Try.ntmps22
  go_wp2_with fail
  have hz : (((w.alloc (.cells #[.slice ao N cap] 26)).alloc (.cells #[.slice none 0 0] 34)).alloc (.cells #[.slice none 0 0] 34)).heap.size = w.heap.size + 3 := by simp
  have hb := (((Below.refl w.heap.size w).alloc (Nat.le_refl _) (.cells #[.slice ao N cap] 26)).alloc (by simp) (.cells #[.slice none 0 0] 34)).alloc (by simp; omega) (.cells #[.slice none 0 0] 34)
  have q1 : (((w.alloc (.cells #[.slice ao N cap] 26)).alloc (.cells #[.slice none 0 0] 34)).alloc (.cells #[.slice none 0 0] 34)).cell? ⟨w.heap.size + 1, 0, none⟩ = some (.slice none 0 0) ∧ (((w.alloc (.cells #[.slice ao N cap] 26)).alloc (.cells #[.slice none 0 0] 34)).alloc (.cells #[.slice none 0 0] 34)).frozen? ⟨w.heap.size + 1, 0, none⟩ = false := by
    have h3 := (Below.refl _ ((w.alloc (.cells #[.slice ao N cap] 26)).alloc (.cells #[.slice none 0 0] 34))).alloc (Nat.le_refl _) (.cells #[.slice none 0 0] 34)
    have a1 := World.cell?_alloc_new (w.alloc (.cells #[.slice ao N cap] 26)) #[.slice none 0 0] 34 0
    have a2 := World.frozen?_alloc_new (w.alloc (.cells #[.slice ao N cap] 26)) #[.slice none 0 0] 34 0
    rw [World.size_alloc] at a1 a2
    exact ⟨(h3.cell (p := ⟨w.heap.size + 1, 0, none⟩) (by show w.heap.size + 1 < _; simp)).trans a1, (h3.frozen (p := ⟨w.heap.size + 1, 0, none⟩) (by show w.heap.size + 1 < _; simp)).trans a2⟩
  have q2 : (((w.alloc (.cells #[.slice ao N cap] 26)).alloc (.cells #[.slice none 0 0] 34)).alloc (.cells #[.slice none 0 0] 34)).cell? ⟨w.heap.size + 1 + 1, 0, none⟩ = some (.slice none 0 0) ∧ (((w.alloc (.cells #[.slice ao N cap] 26)).alloc (.cells #[.slice none 0 0] 34)).alloc (.cells #[.slice none 0 0] 34)).frozen? ⟨w.heap.size + 1 + 1, 0, none⟩ = false := by
    have a1 := World.cell?_alloc_new ((w.alloc (.cells #[.slice ao N cap] 26)).alloc (.cells #[.slice none 0 0] 34)) #[.slice none 0 0] 34 0
    have a2 := World.frozen?_alloc_new ((w.alloc (.cells #[.slice ao N cap] 26)).alloc (.cells #[.slice none 0 0] 34)) #[.slice none 0 0] 34 0
    rw [World.size_alloc, World.size_alloc] at a1 a2
    exact ⟨a1, a2⟩
  generalize (((w.alloc (.cells #[.slice ao N cap] 26)).alloc (.cells #[.slice none 0 0] 34)).alloc (.cells #[.slice none 0 0] 34)) = W at hz hb q1 q2 ⊢
  refine (toIntS_any ao N cap f W (HR.out.below hb) hN).mono ?_
  rintro e w1 ⟨rfl, hi, hl, hb1⟩
  have q1' : w1.cell? ⟨w.heap.size + 1, 0, none⟩ = some (.slice none 0 0) := (hb1.cell (p := ⟨w.heap.size + 1, 0, none⟩) (by show w.heap.size + 1 < _; omega)).trans q1.1
  have f1' : w1.frozen? ⟨w.heap.size + 1, 0, none⟩ = false := (hb1.frozen (p := ⟨w.heap.size + 1, 0, none⟩) (by show w.heap.size + 1 < _; omega)).trans q1.2
  have q2' : w1.cell? ⟨w.heap.size + 1 + 1, 0, none⟩ = some (.slice none 0 0) := (hb1.cell (p := ⟨w.heap.size + 1 + 1, 0, none⟩) (by show w.heap.size + 1 + 1 < _; omega)).trans q2.1
  have f2' : w1.frozen? ⟨w.heap.size + 1 + 1, 0, none⟩ = false := (hb1.frozen (p := ⟨w.heap.size + 1 + 1, 0, none⟩) (by show w.heap.size + 1 + 1 < _; omega)).trans q2.2
  have HI : Hid (Ints w1 W.heap.size 0 N f ∧ W.heap.size < w1.heap.size ∧ Below w.heap.size w w1 ∧ W.heap.size = w.heap.size + 3) := ⟨hi, hl, below_join hb hb1, hz⟩
  clear hi hl hb hb1 q1 q2 hz
  go_wp2_with fail
  have hI := HI.out
  have h4 := hI.2.2.2
  refine bodyPost_ret (v := .agg #[.slice (some ⟨W.heap.size, 0, none⟩) N N]) (by simp [results, Try.results22, go_sem, q1']) rfl ⟨W.heap.size, rfl, by omega, ?_, ?_, ?_⟩
  · exact (hI.1.turn ((Turn.refl (w.heap.size + 1 + 1) _).set 0 _) (by omega) hI.2.1).turn ((Turn.refl (w.heap.size + 1) _).set 0 _) (by omega) (by rw [World.size_setCell]; exact hI.2.1)
  · rw [World.size_setCell, World.size_setCell]; exact hI.2.1
  · exact (hI.2.2.1.setCell (by show w.heap.size ≤ w.heap.size + 1 + 1; omega) _).setCell (by show w.heap.size ≤ w.heap.size + 1; omega) _

theorem eqArenaH_same (ao bo : Option Addr) (N ca cb : Nat) (f g : Nat → Int) (w : World) (ha : RdI w ao N f) (hb : RdI w bo N g) (he : ∀ j, j < N → f j = g j) (hN : N ≤ 1048576) :
    Calls Try.prog 29 #[.agg #[.slice ao N ca], .agg #[.slice bo N cb]] w fun e w' => e = .returned (.bool true) ∧ Below w.heap.size w w' := by
  have HA : Hid (RdI w ao N f) := ha
  have HB : Hid (RdI w bo N g) := hb
  have HE : Hid (∀ j, j < N → f j = g j) := he
  clear ha hb he
  go_enter Try.func29, Try.ntmps29
  go_wp2_with fail
  have hb2 := ((Below.refl w.heap.size w).alloc (Nat.le_refl _) (.cells #[.slice ao N ca] 34)).alloc (by simp) (.cells #[.slice bo N cb] 34)
  refine (eqIntS_same ao bo N ca cb f g _ (HA.out.below hb2) (HB.out.below hb2) HE.out hN).mono ?_
  rintro e w1 ⟨rfl, hb1⟩
  have HB1 : Hid (Below w.heap.size w w1) := hb2.trans (hb1.mono (by simp; omega))
  clear hb1 hb2
  go_wp2_with fail
  go_ret
  exact ⟨rfl, HB1.out⟩

set_option maxHeartbeats 1000000 in
theorem szStr3_any (ao : Option Addr) (cap : Nat) (L : List ByteArray) (w : World) (hr : RdT w ao L) (hN : L.length ≤ maxLen) (hs : ∀ x ∈ L, x.size ≤ maxLen) (lf0 : Int) (hl0 : 0 ≤ lf0) (hl1 : lf0 ≤ 1048576) :
    Calls Try.prog 13 #[.slice ao L.length cap, .int .i64 lf0] w fun e w' => ∃ y : Int, e = .returned (.int .i64 y) ∧ w' = w ∧ (-1 ≤ y ∧ y ≤ lf0) ∧ (0 ≤ y → L.length ≤ 1048576 ∧ ∀ x ∈ L, x.size ≤ 1048576) := by
  have HR : Hid (RdT w ao L) := hr
  have HS : Hid (∀ x ∈ L, x.size ≤ maxLen) := hs
  clear hr hs
  unfold maxLen at hN
  by_cases hb : (L.length : Int) ≤ lf0
  · go_enter Try.func13, Try.ntmps13
    go_wp2_with fail
    go_loop [1, 5] (fun a i => ∃ (m : Nat) (c : Int), m ≤ L.length ∧ i = .int .i64 m ∧ a = .int .i64 c ∧ 0 ≤ c ∧ c ≤ lf0 ∧ ∀ x ∈ L.take m, x.size ≤ 1048576) (fun _ i => L.length - (intOf i).toNat)
    case atStart => exact ⟨0, lf0 - L.length, Nat.zero_le _, rfl, rfl, by omega, by omega, fun x hx => by simp at hx⟩
    case round =>
      obtain ⟨m, c, hm, rfl, rfl, hc0, hc1, htk⟩ := hrel
      have HTK : Hid (∀ x ∈ L.take m, x.size ≤ 1048576) := htk
      clear htk
      by_cases hlt : m < L.length
      · obtain ⟨b, o, rfl, hc⟩ := HR.out (by omega)
        have q := hc m hlt
        have hsz := HS.out _ (List.getElem_mem hlt)
        unfold maxLen at hsz
        have HNX : Hid (L[m].size ≤ 1048576 → ∀ x ∈ L.take (m + 1), x.size ≤ 1048576) := fun h x hx => by
          rw [List.take_add_one, List.getElem?_eq_getElem hlt] at hx
          rcases List.mem_append.mp hx with h1 | h1
          · exact HTK.out x h1
          · simp at h1; rw [h1]; exact h
        generalize L[m] = x at *
        clear hc
        by_cases hx : c - x.size < 0
        · go_wp2_with fail
          go_ret
          exact ⟨(-1 : Int), rfl, rfl, by omega, fun h => absurd h (by omega)⟩
        · go_wp2_with fail
          go_round
          case rel => exact ⟨m + 1, c - x.size, by omega, by go_num, rfl, by omega, by omega, HNX.out (by omega)⟩
          case measure => simp [intOf]; omega
      · go_wp2_with fail
        go_ret
        have e : m = L.length := by omega
        have h := HTK.out
        rw [e, List.take_length] at h
        exact ⟨c, rfl, rfl, by omega, fun _ => ⟨by omega, h⟩⟩
  · go_enter Try.func13, Try.ntmps13
    go_wp2_with fail
    go_ret
    exact ⟨_, rfl, rfl, by omega, fun h => absurd h (by omega)⟩

/-! ### A system on heaps -/
structure Hp where
  code : List I
  atoms : List ByteArray
  N : Nat
  f : Nat → Int
  cells : List Ce
  next : Int
  out : List Sd
  room : Int
/-- Where its lists stand. -/
structure Hw where
  ca : Option Addr
  cc : Nat
  ta : Option Addr
  tc : Nat
  ra : Option Addr
  rc : Nat
  ea : Option Addr
  ec : Nat
  oa : Option Addr
  oc : Nat
structure HpR (w : World) (p : Hp) (h : Hw) : Prop where
  code : RowI w h.ca p.code
  atoms : RdT w h.ta p.atoms
  arena : RdI w h.ra p.N p.f
  cells : RowC w h.ea p.cells
  out : RowS w h.oa p.out
structure HpM (p : Hp) (h : Hw) : Prop where
  sm : SmI maxLen p.code
  c1 : p.code.length ≤ maxLen
  t1 : p.atoms.length ≤ maxLen
  ts : ∀ x ∈ p.atoms, x.size ≤ maxLen
  n1 : p.N ≤ maxLen
  e1 : p.cells.length ≤ maxLen
  es : ∀ c ∈ p.cells, CeM c
  o1 : p.out.length ≤ maxLen
abbrev hpV (p : Hp) (h : Hw) : Value := .agg #[.slice h.ca p.code.length h.cc, .slice h.ta p.atoms.length h.tc, .slice h.ra p.N h.rc, .slice h.ea p.cells.length h.ec, .int .i64 p.next, .slice h.oa p.out.length h.oc, .int .i64 p.room]
theorem HpR.below {w w' : World} {p : Hp} {h : Hw} (x : HpR w p h) (hb : Below w.heap.size w w') : HpR w' p h :=
  ⟨x.code.below hb, x.atoms.below hb, x.arena.below hb, x.cells.below hb, x.out.below hb⟩
/-- All in it is within limits. -/
structure HpS (p : Hp) : Prop where
  c : p.code.length ≤ 1048576
  cs : SmI 1048576 p.code
  t : p.atoms.length ≤ 1048576
  ts : ∀ x ∈ p.atoms, x.size ≤ 1048576
  n : p.N ≤ 1048576
  e : p.cells.length ≤ 1048576
  ex : ∀ x ∈ p.cells, CeS x
  o : p.out.length ≤ 1048576
  ox : ∀ x ∈ p.out, StS x.t

set_option maxHeartbeats 2000000 in
set_option maxRecDepth 100000 in
theorem szHeaps_any (p : Hp) (h : Hw) (w : World) (hr : HpR w p h) (hm : HpM p h) :
    Calls Try.prog 5 #[hpV p h, .int .i64 1048576] w fun e w' => (∃ r : Int, e = .returned (.int .i64 r) ∧ (0 ≤ r → HpS p)) ∧ Below w.heap.size w w' := by
  have KI : Hid (∀ wc, Below w.heap.size w wc → Calls Try.prog 12 #[.slice h.ca p.code.length h.cc, .int .i64 1048576] wc fun e w' => (∃ r : Int, e = .returned (.int .i64 r) ∧ r ≤ 1048576 ∧ (0 ≤ r → p.code.length ≤ 1048576 ∧ SmI 1048576 p.code)) ∧ Below wc.heap.size wc w') := fun wc hb => szInsS_le p.code h.ca h.cc wc (hr.code.below hb) hm.sm hm.c1
  have KT : Hid (∀ wc, Below w.heap.size w wc → ∀ r : Int, 0 ≤ r → r ≤ 1048576 → Calls Try.prog 13 #[.slice h.ta p.atoms.length h.tc, .int .i64 r] wc fun e w' => ∃ y : Int, e = .returned (.int .i64 y) ∧ w' = wc ∧ (-1 ≤ y ∧ y ≤ r) ∧ (0 ≤ y → p.atoms.length ≤ 1048576 ∧ ∀ x ∈ p.atoms, x.size ≤ 1048576)) := fun wc hb r h0 h1 => szStr3_any h.ta h.tc p.atoms wc (hr.atoms.below hb) hm.t1 hm.ts r h0 h1
  have KR : Hid (∀ wc, Below w.heap.size w wc → ∀ r : Int, 0 ≤ r → r ≤ 1048576 → Calls Try.prog 14 #[.agg #[.slice h.ra p.N h.rc], .int .i64 r] wc fun e w' => (∃ y : Int, e = .returned (.int .i64 y) ∧ y ≤ r ∧ (0 ≤ y → p.N ≤ 1048576)) ∧ Below wc.heap.size wc w') := fun wc hb r h0 h1 => (szArenaH_any h.ra p.N h.rc r hm.n1 ⟨h0, h1⟩ wc).mono fun e w' ⟨a, b⟩ => ⟨⟨_, a, by unfold szI; split <;> omega, fun h => by unfold szI at h; split at h <;> omega⟩, b⟩
  have KE : Hid (∀ wc, Below w.heap.size w wc → ∀ r : Int, 0 ≤ r → r ≤ 1048576 → Calls Try.prog 15 #[.slice h.ea p.cells.length h.ec, .int .i64 r] wc fun e w' => (∃ r' : Int, e = .returned (.int .i64 r') ∧ r' ≤ r ∧ (0 ≤ r' → p.cells.length ≤ 1048576 ∧ ∀ a ∈ p.cells, CeS a)) ∧ Below wc.heap.size wc w') := fun wc hb r h0 h1 => szCellS_any p.cells h.ea h.ec r wc (hr.cells.below hb) hm.es hm.e1 h0 h1
  have KS : Hid (∀ wc, Below w.heap.size w wc → ∀ r : Int, 0 ≤ r → r ≤ 1048576 → Calls Try.prog 16 #[.slice h.oa p.out.length h.oc, .int .i64 r] wc fun e w' => (∃ r' : Int, e = .returned (.int .i64 r') ∧ r' ≤ r ∧ (0 ≤ r' → p.out.length ≤ 1048576 ∧ (∀ a ∈ p.out, StS a.t) ∧ r' + (ntXs p.out : Int) ≤ r)) ∧ Below wc.heap.size wc w') := fun wc hb r h0 h1 => szSaidS_any p.out h.oa h.oc r wc (hr.out.below hb) hm.o1 h0 h1
  have HFIN : Hid ((p.code.length ≤ 1048576 ∧ SmI 1048576 p.code) → (p.atoms.length ≤ 1048576 ∧ ∀ x ∈ p.atoms, x.size ≤ 1048576) → p.N ≤ 1048576 → (p.cells.length ≤ 1048576 ∧ ∀ a ∈ p.cells, CeS a) → (p.out.length ≤ 1048576 ∧ (∀ a ∈ p.out, StS a.t)) → HpS p) := fun a b c d e => ⟨a.1, a.2, b.1, b.2, c, d.1, d.2, e.1, e.2⟩
  obtain ⟨code, atoms, N, f, cells, next, out, room⟩ := p
  obtain ⟨ca, cc, ta, tc, ra, rc, ea, ec, oa, oc⟩ := h
  dsimp only at KI KT KR KE KS HFIN
  clear hr hm
  obtain ⟨w0, hw0⟩ : ∃ w0, w0 = w.alloc (.cells #[.slice ca code.length cc, .slice ta atoms.length tc, .slice ra N rc, .slice ea cells.length ec, .int .i64 next, .slice oa out.length oc, .int .i64 room] 30) := ⟨_, rfl⟩
  have hb0 : Below w.heap.size w w0 := by rw [hw0]; exact (Below.refl _ _).alloc (Nat.le_refl _) _
  have HB0 : Hid (Below w.heap.size w w0) := hb0
  have q : ∀ x, w0.cell? ⟨w.heap.size, x, none⟩ = (#[.slice ca code.length cc, .slice ta atoms.length tc, .slice ra N rc, .slice ea cells.length ec, .int .i64 next, .slice oa out.length oc, .int .i64 room] : Array Value)[x]? := fun x => by rw [hw0, World.cell?_alloc_new]
  have HQ : Hid (∀ wc, Below w0.heap.size w0 wc → wc.cell? ⟨w.heap.size, 1, none⟩ = some (.slice ta atoms.length tc) ∧ wc.cell? ⟨w.heap.size, 2, none⟩ = some (.slice ra N rc) ∧ wc.cell? ⟨w.heap.size, 3, none⟩ = some (.slice ea cells.length ec) ∧ wc.cell? ⟨w.heap.size, 5, none⟩ = some (.slice oa out.length oc)) := fun wc hb => ⟨keepA hb (q 1), keepA hb (q 2), keepA hb (q 3), keepA hb (q 5)⟩
  have HW : Hid (∀ wc, Below w0.heap.size w0 wc → Below w.heap.size w wc) := fun wc hb => HB0.out.trans (hb.mono HB0.out.size)
  clear q hb0
  go_enter Try.func5, Try.ntmps5
  go_wp2_with (go_at_call 12; fail)
  rw [← hw0]
  clear hw0
  refine (KI.out w0 HB0.out).mono ?_
  rintro e w1 ⟨⟨r1, rfl, h1, h1'⟩, hb1⟩
  have HB1 : Hid (Below w0.heap.size w0 w1) := hb1
  have HR1 : Hid (0 ≤ r1 → code.length ≤ 1048576 ∧ SmI 1048576 code) := h1'
  obtain ⟨d1, d2, d3, d5⟩ := HQ.out w1 hb1
  clear hb1 h1'
  by_cases hn1 : r1 < 0
  · go_wp2_with fail
    go_ret
    exact ⟨⟨-1, rfl, fun h => absurd h (by decide)⟩, HW.out _ HB1.out⟩
  go_wp2_with (go_at_call 13; fail)
  refine (KT.out w1 (HW.out _ HB1.out) r1 (by omega) h1).mono ?_
  rintro e w2 ⟨r2, rfl, hw2, h2, h2'⟩
  have HR2 : Hid (0 ≤ r2 → atoms.length ≤ 1048576 ∧ ∀ x ∈ atoms, x.size ≤ 1048576) := h2'
  obtain rfl := hw2.symm
  clear h2'
  by_cases hn2 : r2 < 0
  · go_wp2_with fail
    go_ret
    exact ⟨⟨-1, rfl, fun h => absurd h (by decide)⟩, HW.out _ HB1.out⟩
  go_wp2_with (go_at_call 14; fail)
  refine (KR.out w1 (HW.out _ HB1.out) r2 (by omega) (by omega)).mono ?_
  rintro e w3 ⟨⟨r3, rfl, h3, h3'⟩, hb3⟩
  have HB3 : Hid (Below w0.heap.size w0 w3) := HB1.out.trans (hb3.mono HB1.out.size)
  have HR3 : Hid (0 ≤ r3 → N ≤ 1048576) := h3'
  clear hb3 h3' d1 d2 d3 d5
  obtain ⟨d1, d2, d3, d5⟩ := HQ.out w3 HB3.out
  by_cases hn3 : r3 < 0
  · go_wp2_with fail
    go_ret
    exact ⟨⟨-1, rfl, fun h => absurd h (by decide)⟩, HW.out _ HB3.out⟩
  go_wp2_with (go_at_call 15; fail)
  refine (KE.out w3 (HW.out _ HB3.out) r3 (by omega) (by omega)).mono ?_
  rintro e w4 ⟨⟨r4, rfl, h4, h4'⟩, hb4⟩
  have HB4 : Hid (Below w0.heap.size w0 w4) := HB3.out.trans (hb4.mono HB3.out.size)
  have HR4 : Hid (0 ≤ r4 → cells.length ≤ 1048576 ∧ ∀ a ∈ cells, CeS a) := h4'
  clear hb4 h4' d1 d2 d3 d5
  obtain ⟨d1, d2, d3, d5⟩ := HQ.out w4 HB4.out
  by_cases hn4 : r4 < 0
  · go_wp2_with fail
    go_ret
    exact ⟨⟨-1, rfl, fun h => absurd h (by decide)⟩, HW.out _ HB4.out⟩
  go_wp2_with (go_at_call 16; fail)
  refine (KS.out w4 (HW.out _ HB4.out) r4 (by omega) (by omega)).mono ?_
  rintro e w5 ⟨⟨r5, rfl, h5, h5'⟩, hb5⟩
  have HB5 : Hid (Below w0.heap.size w0 w5) := HB4.out.trans (hb5.mono HB4.out.size)
  have HR5 : Hid (0 ≤ r5 → out.length ≤ 1048576 ∧ (∀ a ∈ out, StS a.t) ∧ r5 + (ntXs out : Int) ≤ r4) := h5'
  clear hb5 h5' d1 d2 d3 d5
  by_cases hn5 : r5 < 0
  · go_wp2_with fail
    go_ret
    exact ⟨⟨-1, rfl, fun h => absurd h (by decide)⟩, HW.out _ HB5.out⟩
  have HF : Hid (HpS ⟨code, atoms, N, f, cells, next, out, room⟩) := by
    have a5 := HR5.out (by omega)
    exact HFIN.out (HR1.out (by omega)) (HR2.out (by omega)) (HR3.out (by omega)) (HR4.out (by omega)) ⟨a5.1, a5.2.1⟩
  go_wp2_with fail
  go_ret
  exact ⟨⟨r5, rfl, fun _ => HF.out⟩, HW.out _ HB5.out⟩

set_option maxHeartbeats 2000000 in
set_option maxRecDepth 100000 in
theorem eqHeaps_same (p : Hp) (g h : Hw) (w : World) (hg : HpR w p g) (hh : HpR w p h) (hm : HpM p h) (hs : HpS p) :
    Calls Try.prog 9 #[hpV p g, hpV p h] w fun e w' => e = .returned (.bool true) ∧ Below w.heap.size w w' := by
  have KI : Hid (∀ wc, Below w.heap.size w wc → Calls Try.prog 27 #[.slice g.ca p.code.length g.cc, .slice h.ca p.code.length h.cc] wc fun e w' => e = .returned (.bool true) ∧ Below wc.heap.size wc w') := fun wc hb => eqInsS_same p.code g.ca h.ca g.cc h.cc wc (hg.code.below hb) (hh.code.below hb) hs.c
  have KT : Hid (∀ wc, Below w.heap.size w wc → Calls Try.prog 28 #[.slice g.ta p.atoms.length g.tc, .slice h.ta p.atoms.length h.tc] wc fun e w' => e = .returned (.bool true) ∧ Below wc.heap.size wc w') := fun wc hb => eqStr_same g.ta h.ta g.tc h.tc p.atoms wc (hg.atoms.below hb) (hh.atoms.below hb) (Nat.le_trans hs.t (by omega))
  have KR : Hid (∀ wc, Below w.heap.size w wc → Calls Try.prog 29 #[.agg #[.slice g.ra p.N g.rc], .agg #[.slice h.ra p.N h.rc]] wc fun e w' => e = .returned (.bool true) ∧ Below wc.heap.size wc w') := fun wc hb => eqArenaH_same g.ra h.ra p.N g.rc h.rc p.f p.f wc (hg.arena.below hb) (hh.arena.below hb) (fun _ _ => rfl) hs.n
  have KE : Hid (∀ wc, Below w.heap.size w wc → Calls Try.prog 30 #[.slice g.ea p.cells.length g.ec, .slice h.ea p.cells.length h.ec] wc fun e w' => e = .returned (.bool true) ∧ Below wc.heap.size wc w') := fun wc hb => eqCellS_same p.cells g.ea h.ea g.ec h.ec wc (hg.cells.below hb) (hh.cells.below hb) hm.e1 hs.ex
  have KS : Hid (∀ wc, Below w.heap.size w wc → Calls Try.prog 31 #[.slice g.oa p.out.length g.oc, .slice h.oa p.out.length h.oc] wc fun e w' => e = .returned (.bool true) ∧ Below wc.heap.size wc w') := fun wc hb => eqSaidS_same p.out g.oa h.oa g.oc h.oc wc (hg.out.below hb) (hh.out.below hb) hm.o1
  obtain ⟨code, atoms, N, f, cells, next, out, room⟩ := p
  obtain ⟨ca, cc, ta, tc, ra, rc, ea, ec, oa, oc⟩ := g
  obtain ⟨ca', cc', ta', tc', ra', rc', ea', ec', oa', oc'⟩ := h
  dsimp only at KI KT KR KE KS
  clear hg hh hm hs
  obtain ⟨w0, hw0⟩ : ∃ w0, w0 = (w.alloc (.cells #[.slice ca code.length cc, .slice ta atoms.length tc, .slice ra N rc, .slice ea cells.length ec, .int .i64 next, .slice oa out.length oc, .int .i64 room] 38)).alloc (.cells #[.slice ca' code.length cc', .slice ta' atoms.length tc', .slice ra' N rc', .slice ea' cells.length ec', .int .i64 next, .slice oa' out.length oc', .int .i64 room] 38) := ⟨_, rfl⟩
  have hb0 : Below w.heap.size w w0 := by rw [hw0]; exact ((Below.refl _ _).alloc (Nat.le_refl _) _).alloc (by simp) _
  have HB0 : Hid (Below w.heap.size w w0) := hb0
  have e1 : (w.alloc (.cells #[.slice ca code.length cc, .slice ta atoms.length tc, .slice ra N rc, .slice ea cells.length ec, .int .i64 next, .slice oa out.length oc, .int .i64 room] 38)).heap.size = w.heap.size + 1 := by simp
  have q : ∀ x, w0.cell? ⟨w.heap.size, x, none⟩ = (#[.slice ca code.length cc, .slice ta atoms.length tc, .slice ra N rc, .slice ea cells.length ec, .int .i64 next, .slice oa out.length oc, .int .i64 room] : Array Value)[x]? := fun x => by rw [hw0, World.cell?_alloc_lt (h := by simp), World.cell?_alloc_new]
  have q' : ∀ x, w0.cell? ⟨w.heap.size + 1, x, none⟩ = (#[.slice ca' code.length cc', .slice ta' atoms.length tc', .slice ra' N rc', .slice ea' cells.length ec', .int .i64 next, .slice oa' out.length oc', .int .i64 room] : Array Value)[x]? := fun x => by rw [hw0, ← e1, World.cell?_alloc_new]
  have HQ : Hid (∀ wc, Below w0.heap.size w0 wc → (wc.cell? ⟨w.heap.size, 1, none⟩ = some (.slice ta atoms.length tc) ∧ wc.cell? ⟨w.heap.size + 1, 1, none⟩ = some (.slice ta' atoms.length tc')) ∧ (wc.cell? ⟨w.heap.size, 2, none⟩ = some (.slice ra N rc) ∧ wc.cell? ⟨w.heap.size + 1, 2, none⟩ = some (.slice ra' N rc')) ∧ (wc.cell? ⟨w.heap.size, 3, none⟩ = some (.slice ea cells.length ec) ∧ wc.cell? ⟨w.heap.size + 1, 3, none⟩ = some (.slice ea' cells.length ec')) ∧ (wc.cell? ⟨w.heap.size, 4, none⟩ = some (.int .i64 next) ∧ wc.cell? ⟨w.heap.size + 1, 4, none⟩ = some (.int .i64 next)) ∧ (wc.cell? ⟨w.heap.size, 5, none⟩ = some (.slice oa out.length oc) ∧ wc.cell? ⟨w.heap.size + 1, 5, none⟩ = some (.slice oa' out.length oc')) ∧ (wc.cell? ⟨w.heap.size, 6, none⟩ = some (.int .i64 room) ∧ wc.cell? ⟨w.heap.size + 1, 6, none⟩ = some (.int .i64 room))) := fun wc hb =>
    ⟨⟨keepA hb (q 1), keepA hb (q' 1)⟩, ⟨keepA hb (q 2), keepA hb (q' 2)⟩, ⟨keepA hb (q 3), keepA hb (q' 3)⟩, ⟨keepA hb (q 4), keepA hb (q' 4)⟩, ⟨keepA hb (q 5), keepA hb (q' 5)⟩, keepA hb (q 6), keepA hb (q' 6)⟩
  have HW : Hid (∀ wc, Below w0.heap.size w0 wc → Below w.heap.size w wc) := fun wc hb => HB0.out.trans (hb.mono HB0.out.size)
  clear q q' e1 hb0
  go_enter Try.func9, Try.ntmps9
  go_wp2_with (go_at_call 27; fail)
  rw [← hw0]
  clear hw0
  refine (KI.out w0 HB0.out).mono ?_
  rintro e w1 ⟨rfl, hb1⟩
  have HB1 : Hid (Below w0.heap.size w0 w1) := hb1
  obtain ⟨⟨d1, d1'⟩, _⟩ := HQ.out w1 hb1
  clear hb1
  go_wp2_with (go_at_call 28; fail)
  refine (KT.out w1 (HW.out _ HB1.out)).mono ?_
  rintro e w2 ⟨rfl, hb2⟩
  have HB2 : Hid (Below w0.heap.size w0 w2) := HB1.out.trans (hb2.mono HB1.out.size)
  clear hb2 d1 d1'
  obtain ⟨_, ⟨d2, d2'⟩, _⟩ := HQ.out w2 HB2.out
  go_wp2_with (go_at_call 29; fail)
  refine (KR.out w2 (HW.out _ HB2.out)).mono ?_
  rintro e w3 ⟨rfl, hb3⟩
  have HB3 : Hid (Below w0.heap.size w0 w3) := HB2.out.trans (hb3.mono HB2.out.size)
  clear hb3 d2 d2'
  obtain ⟨_, _, ⟨d3, d3'⟩, _⟩ := HQ.out w3 HB3.out
  go_wp2_with (go_at_call 30; fail)
  refine (KE.out w3 (HW.out _ HB3.out)).mono ?_
  rintro e w4 ⟨rfl, hb4⟩
  have HB4 : Hid (Below w0.heap.size w0 w4) := HB3.out.trans (hb4.mono HB3.out.size)
  clear hb4 d3 d3'
  obtain ⟨_, _, _, ⟨d4, d4'⟩, ⟨d5, d5'⟩, _⟩ := HQ.out w4 HB4.out
  go_wp2_with (go_at_call 31; fail)
  refine (KS.out w4 (HW.out _ HB4.out)).mono ?_
  rintro e w5 ⟨rfl, hb5⟩
  have HB5 : Hid (Below w0.heap.size w0 w5) := HB4.out.trans (hb5.mono HB4.out.size)
  clear hb5 d4 d4' d5 d5'
  obtain ⟨_, _, _, _, _, d6, d6'⟩ := HQ.out w5 HB5.out
  go_wp2_with fail
  go_ret
  exact ⟨rfl, HW.out _ HB5.out⟩
end Go.Proofs.Ytdglefedbkgghaa
namespace Go.Proofs.Ytdglefedbkgghaa
open Go.RowKit Atom
open Go.Proofs.Ytdglefedbkgghaa.Code
set_option linter.unusedVariables false

/-- The blocks from lo on are as they were. -/
def From (lo : Nat) (w w' : World) : Prop := ∀ x, lo ≤ x → x < w.heap.size → w'.heap[x]? = w.heap[x]?
/-- P holds wherever the blocks from lo on are as they are. -/
def Std (lo : Nat) (w : World) (P : World → Prop) : Prop := ∀ w', From lo w w' → P w'
theorem Std.call {lo : Nat} {w w1 : World} {P : World → Prop} (h : Std lo w P) (hb : Below w.heap.size w w1) : Std lo w1 P := fun w' hf => h w' fun x h1 h2 => (hf x h1 (Nat.lt_of_lt_of_le h2 hb.size)).trans (hb.block x h2)
theorem Std.set {lo b o : Nat} {w : World} {v : Value} {P : World → Prop} (h : Std lo w P) (hb : b < lo) : Std lo (w.setCell ⟨b, o, none⟩ v) P := fun w' hf => h w' fun x h1 h2 => (hf x h1 (by rw [World.size_setCell]; exact h2)).trans (Below.heap_setCell w ⟨b, o, none⟩ v x (by show x ≠ b; omega))
theorem Std.here {lo : Nat} {w : World} {P : World → Prop} (h : Std lo w P) : P w := h w fun _ _ _ => rfl
theorem Std.and {lo : Nat} {w : World} {P Q : World → Prop} (h : Std lo w P) (k : Std lo w Q) : Std lo w (fun w' => P w' ∧ Q w') := fun w' hf => ⟨h w' hf, k w' hf⟩
theorem Std.to {lo : Nat} {w : World} {P Q : World → Prop} (h : Std lo w P) (k : ∀ w', P w' → Q w') : Std lo w Q := fun w' hf => k w' (h w' hf)
theorem std_gl {α : Type} {e : Elt α} {w : World} {lo : Nat} {l : List α} {bs : List Nat} {ao : Option Addr} (h : GL e w l bs ao) (hlo : ∀ b ∈ bs, lo ≤ b) : Std lo w (fun w' => GL e w' l bs ao) := fun w' hf => h.keep (fun x hx hl => hf x (hlo x hx) hl)
theorem std_sts {w : World} {lo b N : Nat} {f : Nat → ByteArray} (h : Sts w b N f) (hb : lo ≤ b) (hl : b < w.heap.size) : Std lo w (fun w' => Sts w' b N f) := fun w' hf =>
  ⟨fun j hj => by rw [World.cell?_of_block (w := w) (hf b hb hl)]; exact h.cell j hj, fun x => by rw [World.frozen?_of_block (w := w) (hf b hb hl)]; exact h.free x⟩
theorem std_ints {w : World} {lo b N : Nat} {f : Nat → Int} (h : Ints w b 0 N f) (hb : lo ≤ b) (hl : b < w.heap.size) : Std lo w (fun w' => Ints w' b 0 N f) := fun w' hf =>
  ⟨fun j hj => by rw [World.cell?_of_block (w := w) (hf b hb hl)]; exact h.cell j hj, fun x => by rw [World.frozen?_of_block (w := w) (hf b hb hl)]; exact h.free x⟩
theorem hidH {p : Prop} (h : p) : Hid p := h
theorem sevC {a b c d e f g a' b' c' d' e' f' g' : Value} (j : Nat) (h : (0 ≠ j → a' = a) ∧ (1 ≠ j → b' = b) ∧ (2 ≠ j → c' = c) ∧ (3 ≠ j → d' = d) ∧ (4 ≠ j → e' = e) ∧ (5 ≠ j → f' = f) ∧ (6 ≠ j → g' = g)) : ∀ o, o ≠ j → (#[a', b', c', d', e', f', g'] : Array Value)[o]? = (#[a, b, c, d, e, f, g] : Array Value)[o]? := fun o ho => by
  obtain ⟨h0, h1, h2, h3, h4, h5, h6⟩ := h
  match o, ho with
  | 0, ho => rw [h0 ho]; rfl
  | 1, ho => rw [h1 ho]; rfl
  | 2, ho => rw [h2 ho]; rfl
  | 3, ho => rw [h3 ho]; rfl
  | 4, ho => rw [h4 ho]; rfl
  | 5, ho => rw [h5 ho]; rfl
  | 6, ho => rw [h6 ho]; rfl
  | n + 7, _ => rw [Array.getElem?_eq_none (by simp), Array.getElem?_eq_none (by simp)]

set_option maxHeartbeats 4000000 in
set_option maxRecDepth 100000 in
theorem toHeaps_any (p : Hp) (h : Hw) (w : World) (hr : HpR w p h) (hs : HpS p) :
    Calls Try.prog 7 #[hpV p h] w fun e w' => ∃ g : Hw, e = .returned (hpV p g) ∧ (g.rc = p.N ∧ HpR w' p g) ∧ Below w.heap.size w w' := by
  obtain ⟨code, atoms, N, f, cells, next, out, room⟩ := p
  obtain ⟨ca, cc, ta, tc, ra, rc, ea, ec, oa, oc⟩ := h
  have HR : Hid (HpR w ⟨code, atoms, N, f, cells, next, out, room⟩ ⟨ca, cc, ta, tc, ra, rc, ea, ec, oa, oc⟩) := hr
  have HS : Hid (HpS ⟨code, atoms, N, f, cells, next, out, room⟩) := hs
  clear hr hs
  go_enter Try.func7, Try.ntmps7
  go_wp2_with fail
  have H0 : Tc3 w _ #[.slice ca code.length cc, .slice ta atoms.length tc, .slice ra N rc, .slice ea cells.length ec, .int .i64 next, .slice oa out.length oc, .int .i64 room] #[.slice none 0 0, .slice none 0 0, .slice none 0 0, .slice none 0 0, .int .i64 0, .slice none 0 0, .int .i64 0] #[.slice none 0 0, .slice none 0 0, .slice none 0 0, .slice none 0 0, .int .i64 0, .slice none 0 0, .int .i64 0] := Tc3.new w _ _ _ 30 38 38
  obtain ⟨W0, hW0⟩ : ∃ W0, W0 = ((w.alloc (.cells #[.slice ca code.length cc, .slice ta atoms.length tc, .slice ra N rc, .slice ea cells.length ec, .int .i64 next, .slice oa out.length oc, .int .i64 room] 30)).alloc (.cells #[.slice none 0 0, .slice none 0 0, .slice none 0 0, .slice none 0 0, .int .i64 0, .slice none 0 0, .int .i64 0] 38)).alloc (.cells #[.slice none 0 0, .slice none 0 0, .slice none 0 0, .slice none 0 0, .int .i64 0, .slice none 0 0, .int .i64 0] 38) := ⟨_, rfl⟩
  rw [← hW0] at H0 ⊢
  clear hW0
  have HT0 : Hid (Tc3 w W0 #[.slice ca code.length cc, .slice ta atoms.length tc, .slice ra N rc, .slice ea cells.length ec, .int .i64 next, .slice oa out.length oc, .int .i64 room] #[.slice none 0 0, .slice none 0 0, .slice none 0 0, .slice none 0 0, .int .i64 0, .slice none 0 0, .int .i64 0] #[.slice none 0 0, .slice none 0 0, .slice none 0 0, .slice none 0 0, .int .i64 0, .slice none 0 0, .int .i64 0]) := H0
  have HS0 : Hid (Std (w.heap.size + 3) W0 (fun _ => True)) := fun _ _ => trivial
  clear H0
  refine (toInsSO_any code ca cc W0 ((HR.out.below HT0.out.be).code) HS.out.c).mono ?_
  rintro e w1 ⟨⟨g1, b1, rfl, hr1, hn1, hl1⟩, hb1⟩
  have hz0 : w.heap.size + 3 ≤ W0.heap.size := HT0.out.sz
  have HP1 := ((HS0.out.call hb1).and ((std_gl hr1 (fun b hb => Nat.le_trans hz0 (hl1 b hb))).to fun _ q => q.rowI)).set (b := w.heap.size + 1 + 1) (o := 0) (v := .slice (some ⟨g1, 0, none⟩) code.length code.length) (by omega)
  have HN1 : Tc3 w (w1.setCell ⟨w.heap.size + 1 + 1, 0, none⟩ (.slice (some ⟨g1, 0, none⟩) code.length code.length)) #[.slice ca code.length cc, .slice ta atoms.length tc, .slice ra N rc, .slice ea cells.length ec, .int .i64 next, .slice oa out.length oc, .int .i64 room] #[.slice none 0 0, .slice none 0 0, .slice none 0 0, .slice none 0 0, .int .i64 0, .slice none 0 0, .int .i64 0] #[.slice (some ⟨g1, 0, none⟩) code.length code.length, .slice none 0 0, .slice none 0 0, .slice none 0 0, .int .i64 0, .slice none 0 0, .int .i64 0] := (HT0.out.call hb1).set 0 rfl rfl (sevC 0 ⟨fun h => absurd rfl h, fun _ => rfl, fun _ => rfl, fun _ => rfl, fun _ => rfl, fun _ => rfl, fun _ => rfl⟩)
  have q1 := (HT0.out.call hb1).q1
  have q3 := (HT0.out.call hb1).q3
  have f3 := (HT0.out.call hb1).f3
  clear hr1 hn1 hb1 hz0 hl1
  have HTx : Hid (Tc3 w (w1.setCell ⟨w.heap.size + 1 + 1, 0, none⟩ (.slice (some ⟨g1, 0, none⟩) code.length code.length)) #[.slice ca code.length cc, .slice ta atoms.length tc, .slice ra N rc, .slice ea cells.length ec, .int .i64 next, .slice oa out.length oc, .int .i64 room] #[.slice none 0 0, .slice none 0 0, .slice none 0 0, .slice none 0 0, .int .i64 0, .slice none 0 0, .int .i64 0] #[.slice (some ⟨g1, 0, none⟩) code.length code.length, .slice none 0 0, .slice none 0 0, .slice none 0 0, .int .i64 0, .slice none 0 0, .int .i64 0]) := HN1
  have HSx := hidH HP1
  clear HN1 HP1
  go_wp2_with fail
  obtain ⟨W1, hW1⟩ : ∃ W1, W1 = (w1.setCell ⟨w.heap.size + 1 + 1, 0, none⟩ (.slice (some ⟨g1, 0, none⟩) code.length code.length)) := ⟨_, rfl⟩
  rw [← hW1] at HTx HSx ⊢
  have HT1 := HTx
  have HS1 := HSx
  clear hW1 HTx HSx q1 q3 f3 HT0 HS0
  refine (toStr_any ta tc atoms W1 ((HR.out.below HT1.out.be).atoms) HS.out.t).mono ?_
  rintro e w2 ⟨rfl, hr1, hn1, hb1⟩
  have hz0 : w.heap.size + 3 ≤ W1.heap.size := HT1.out.sz
  obtain ⟨g2, hg2⟩ : ∃ g2, g2 = W1.heap.size := ⟨_, rfl⟩
  rw [← hg2] at hr1 hn1 ⊢
  have HP2 := ((HS1.out.call hb1).and ((std_sts hr1 (by omega) hn1).to fun _ q => q.txt.rd)).set (b := w.heap.size + 1 + 1) (o := 1) (v := .slice (some ⟨g2, 0, none⟩) atoms.length atoms.length) (by omega)
  have HN2 : Tc3 w (w2.setCell ⟨w.heap.size + 1 + 1, 1, none⟩ (.slice (some ⟨g2, 0, none⟩) atoms.length atoms.length)) #[.slice ca code.length cc, .slice ta atoms.length tc, .slice ra N rc, .slice ea cells.length ec, .int .i64 next, .slice oa out.length oc, .int .i64 room] #[.slice none 0 0, .slice none 0 0, .slice none 0 0, .slice none 0 0, .int .i64 0, .slice none 0 0, .int .i64 0] #[.slice (some ⟨g1, 0, none⟩) code.length code.length, .slice (some ⟨g2, 0, none⟩) atoms.length atoms.length, .slice none 0 0, .slice none 0 0, .int .i64 0, .slice none 0 0, .int .i64 0] := (HT1.out.call hb1).set 1 rfl rfl (sevC 1 ⟨fun _ => rfl, fun h => absurd rfl h, fun _ => rfl, fun _ => rfl, fun _ => rfl, fun _ => rfl, fun _ => rfl⟩)
  have q1 := (HT1.out.call hb1).q1
  have q3 := (HT1.out.call hb1).q3
  have f3 := (HT1.out.call hb1).f3
  clear hr1 hn1 hb1 hz0 hg2
  have HTx : Hid (Tc3 w (w2.setCell ⟨w.heap.size + 1 + 1, 1, none⟩ (.slice (some ⟨g2, 0, none⟩) atoms.length atoms.length)) #[.slice ca code.length cc, .slice ta atoms.length tc, .slice ra N rc, .slice ea cells.length ec, .int .i64 next, .slice oa out.length oc, .int .i64 room] #[.slice none 0 0, .slice none 0 0, .slice none 0 0, .slice none 0 0, .int .i64 0, .slice none 0 0, .int .i64 0] #[.slice (some ⟨g1, 0, none⟩) code.length code.length, .slice (some ⟨g2, 0, none⟩) atoms.length atoms.length, .slice none 0 0, .slice none 0 0, .int .i64 0, .slice none 0 0, .int .i64 0]) := HN2
  have HSx := hidH HP2
  clear HN2 HP2
  go_wp2_with fail
  obtain ⟨W2, hW2⟩ : ∃ W2, W2 = (w2.setCell ⟨w.heap.size + 1 + 1, 1, none⟩ (.slice (some ⟨g2, 0, none⟩) atoms.length atoms.length)) := ⟨_, rfl⟩
  rw [← hW2] at HTx HSx ⊢
  have HT2 := HTx
  have HS2 := HSx
  clear hW2 HTx HSx q1 q3 f3 HT1 HS1
  refine (toArenaH_any ra N rc f W2 ((HR.out.below HT2.out.be).arena) HS.out.n).mono ?_
  rintro e w3 ⟨g3, rfl, hl1, hr1, hn1, hb1⟩
  have hz0 : w.heap.size + 3 ≤ W2.heap.size := HT2.out.sz
  have HP3 := ((HS2.out.call hb1).and ((std_ints hr1 (by omega) hn1).to fun _ q => q.rdI)).set (b := w.heap.size + 1 + 1) (o := 2) (v := .slice (some ⟨g3, 0, none⟩) N N) (by omega)
  have HN3 : Tc3 w (w3.setCell ⟨w.heap.size + 1 + 1, 2, none⟩ (.slice (some ⟨g3, 0, none⟩) N N)) #[.slice ca code.length cc, .slice ta atoms.length tc, .slice ra N rc, .slice ea cells.length ec, .int .i64 next, .slice oa out.length oc, .int .i64 room] #[.slice none 0 0, .slice none 0 0, .slice none 0 0, .slice none 0 0, .int .i64 0, .slice none 0 0, .int .i64 0] #[.slice (some ⟨g1, 0, none⟩) code.length code.length, .slice (some ⟨g2, 0, none⟩) atoms.length atoms.length, .slice (some ⟨g3, 0, none⟩) N N, .slice none 0 0, .int .i64 0, .slice none 0 0, .int .i64 0] := (HT2.out.call hb1).set 2 rfl rfl (sevC 2 ⟨fun _ => rfl, fun _ => rfl, fun h => absurd rfl h, fun _ => rfl, fun _ => rfl, fun _ => rfl, fun _ => rfl⟩)
  have q1 := (HT2.out.call hb1).q1
  have q3 := (HT2.out.call hb1).q3
  have f3 := (HT2.out.call hb1).f3
  clear hr1 hn1 hb1 hz0 hl1
  have HTx : Hid (Tc3 w (w3.setCell ⟨w.heap.size + 1 + 1, 2, none⟩ (.slice (some ⟨g3, 0, none⟩) N N)) #[.slice ca code.length cc, .slice ta atoms.length tc, .slice ra N rc, .slice ea cells.length ec, .int .i64 next, .slice oa out.length oc, .int .i64 room] #[.slice none 0 0, .slice none 0 0, .slice none 0 0, .slice none 0 0, .int .i64 0, .slice none 0 0, .int .i64 0] #[.slice (some ⟨g1, 0, none⟩) code.length code.length, .slice (some ⟨g2, 0, none⟩) atoms.length atoms.length, .slice (some ⟨g3, 0, none⟩) N N, .slice none 0 0, .int .i64 0, .slice none 0 0, .int .i64 0]) := HN3
  have HSx := hidH HP3
  clear HN3 HP3
  go_wp2_with fail
  obtain ⟨W3, hW3⟩ : ∃ W3, W3 = (w3.setCell ⟨w.heap.size + 1 + 1, 2, none⟩ (.slice (some ⟨g3, 0, none⟩) N N)) := ⟨_, rfl⟩
  rw [← hW3] at HTx HSx ⊢
  have HT3 := HTx
  have HS3 := HSx
  clear hW3 HTx HSx q1 q3 f3 HT2 HS2
  refine (toCellS_any cells ea ec W3 ((HR.out.below HT3.out.be).cells) HS.out.e HS.out.ex).mono ?_
  rintro e w4 ⟨⟨g4, b1, rfl, hr1, hn1, hl1⟩, hb1⟩
  have hz0 : w.heap.size + 3 ≤ W3.heap.size := HT3.out.sz
  have HP4 := ((HS3.out.call hb1).and ((std_gl hr1 (fun b hb => Nat.le_trans hz0 (hl1 b hb))).to fun _ q => q.rowC)).set (b := w.heap.size + 1 + 1) (o := 3) (v := .slice (some ⟨g4, 0, none⟩) cells.length cells.length) (by omega)
  have HN4 : Tc3 w (w4.setCell ⟨w.heap.size + 1 + 1, 3, none⟩ (.slice (some ⟨g4, 0, none⟩) cells.length cells.length)) #[.slice ca code.length cc, .slice ta atoms.length tc, .slice ra N rc, .slice ea cells.length ec, .int .i64 next, .slice oa out.length oc, .int .i64 room] #[.slice none 0 0, .slice none 0 0, .slice none 0 0, .slice none 0 0, .int .i64 0, .slice none 0 0, .int .i64 0] #[.slice (some ⟨g1, 0, none⟩) code.length code.length, .slice (some ⟨g2, 0, none⟩) atoms.length atoms.length, .slice (some ⟨g3, 0, none⟩) N N, .slice (some ⟨g4, 0, none⟩) cells.length cells.length, .int .i64 0, .slice none 0 0, .int .i64 0] := (HT3.out.call hb1).set 3 rfl rfl (sevC 3 ⟨fun _ => rfl, fun _ => rfl, fun _ => rfl, fun h => absurd rfl h, fun _ => rfl, fun _ => rfl, fun _ => rfl⟩)
  have q1 := (HT3.out.call hb1).q1
  have q3 := (HT3.out.call hb1).q3
  have f3 := (HT3.out.call hb1).f3
  clear hr1 hn1 hb1 hz0 hl1
  have HN4b : Tc3 w ((w4.setCell ⟨w.heap.size + 1 + 1, 3, none⟩ (.slice (some ⟨g4, 0, none⟩) cells.length cells.length)).setCell ⟨w.heap.size + 1 + 1, 4, none⟩ (.int .i64 next)) #[.slice ca code.length cc, .slice ta atoms.length tc, .slice ra N rc, .slice ea cells.length ec, .int .i64 next, .slice oa out.length oc, .int .i64 room] #[.slice none 0 0, .slice none 0 0, .slice none 0 0, .slice none 0 0, .int .i64 0, .slice none 0 0, .int .i64 0] #[.slice (some ⟨g1, 0, none⟩) code.length code.length, .slice (some ⟨g2, 0, none⟩) atoms.length atoms.length, .slice (some ⟨g3, 0, none⟩) N N, .slice (some ⟨g4, 0, none⟩) cells.length cells.length, .int .i64 next, .slice none 0 0, .int .i64 0] := HN4.set 4 rfl rfl (sevC 4 ⟨fun _ => rfl, fun _ => rfl, fun _ => rfl, fun _ => rfl, fun h => absurd rfl h, fun _ => rfl, fun _ => rfl⟩)
  have HP4b := HP4.set (b := w.heap.size + 1 + 1) (o := 4) (v := .int .i64 next) (by omega)
  clear HP4 HN4
  have HTx : Hid (Tc3 w ((w4.setCell ⟨w.heap.size + 1 + 1, 3, none⟩ (.slice (some ⟨g4, 0, none⟩) cells.length cells.length)).setCell ⟨w.heap.size + 1 + 1, 4, none⟩ (.int .i64 next)) #[.slice ca code.length cc, .slice ta atoms.length tc, .slice ra N rc, .slice ea cells.length ec, .int .i64 next, .slice oa out.length oc, .int .i64 room] #[.slice none 0 0, .slice none 0 0, .slice none 0 0, .slice none 0 0, .int .i64 0, .slice none 0 0, .int .i64 0] #[.slice (some ⟨g1, 0, none⟩) code.length code.length, .slice (some ⟨g2, 0, none⟩) atoms.length atoms.length, .slice (some ⟨g3, 0, none⟩) N N, .slice (some ⟨g4, 0, none⟩) cells.length cells.length, .int .i64 next, .slice none 0 0, .int .i64 0]) := HN4b
  have HSx := hidH HP4b
  clear HN4b HP4b
  go_wp2_with fail
  obtain ⟨W4, hW4⟩ : ∃ W4, W4 = ((w4.setCell ⟨w.heap.size + 1 + 1, 3, none⟩ (.slice (some ⟨g4, 0, none⟩) cells.length cells.length)).setCell ⟨w.heap.size + 1 + 1, 4, none⟩ (.int .i64 next)) := ⟨_, rfl⟩
  rw [← hW4] at HTx HSx ⊢
  have HT4 := HTx
  have HS4 := HSx
  clear hW4 HTx HSx q1 q3 f3 HT3 HS3
  refine (toSaidS_any out oa oc W4 ((HR.out.below HT4.out.be).out) HS.out.o HS.out.ox).mono ?_
  rintro e w5 ⟨⟨g5, b1, rfl, hr1, hn1, hl1⟩, hb1⟩
  have hz0 : w.heap.size + 3 ≤ W4.heap.size := HT4.out.sz
  have HP5 := ((HS4.out.call hb1).and ((std_gl hr1 (fun b hb => Nat.le_trans hz0 (hl1 b hb))).to fun _ q => q.rowS)).set (b := w.heap.size + 1 + 1) (o := 5) (v := .slice (some ⟨g5, 0, none⟩) out.length out.length) (by omega)
  have HN5 : Tc3 w (w5.setCell ⟨w.heap.size + 1 + 1, 5, none⟩ (.slice (some ⟨g5, 0, none⟩) out.length out.length)) #[.slice ca code.length cc, .slice ta atoms.length tc, .slice ra N rc, .slice ea cells.length ec, .int .i64 next, .slice oa out.length oc, .int .i64 room] #[.slice none 0 0, .slice none 0 0, .slice none 0 0, .slice none 0 0, .int .i64 0, .slice none 0 0, .int .i64 0] #[.slice (some ⟨g1, 0, none⟩) code.length code.length, .slice (some ⟨g2, 0, none⟩) atoms.length atoms.length, .slice (some ⟨g3, 0, none⟩) N N, .slice (some ⟨g4, 0, none⟩) cells.length cells.length, .int .i64 next, .slice (some ⟨g5, 0, none⟩) out.length out.length, .int .i64 0] := (HT4.out.call hb1).set 5 rfl rfl (sevC 5 ⟨fun _ => rfl, fun _ => rfl, fun _ => rfl, fun _ => rfl, fun _ => rfl, fun h => absurd rfl h, fun _ => rfl⟩)
  have q1 := (HT4.out.call hb1).q1
  have q3 := (HT4.out.call hb1).q3
  have f3 := (HT4.out.call hb1).f3
  have hb5 := hb1
  clear hr1 hn1 hb1 hz0 hl1
  have q2 := (HT4.out.call hb5).q2
  have f2 := (HT4.out.call hb5).f2
  have HBF : Hid (Below w.heap.size w w5) := (HT4.out.call hb5).be
  have HPF := hidH HP5
  clear HN5 HP5 hb5 HT4 HS4
  go_wp2_with fail
  have hp := ((((((((HPF.out.set (b := w.heap.size + 1 + 1) (o := 6) (v := .int .i64 room) (by omega)).set (b := w.heap.size + 1) (o := 0) (v := .slice (some ⟨g1, 0, none⟩) code.length code.length) (by omega)).set (b := w.heap.size + 1) (o := 1) (v := .slice (some ⟨g2, 0, none⟩) atoms.length atoms.length) (by omega)).set (b := w.heap.size + 1) (o := 2) (v := .slice (some ⟨g3, 0, none⟩) N N) (by omega)).set (b := w.heap.size + 1) (o := 3) (v := .slice (some ⟨g4, 0, none⟩) cells.length cells.length) (by omega)).set (b := w.heap.size + 1) (o := 4) (v := .int .i64 next) (by omega)).set (b := w.heap.size + 1) (o := 5) (v := .slice (some ⟨g5, 0, none⟩) out.length out.length) (by omega)).set (b := w.heap.size + 1) (o := 6) (v := .int .i64 room) (by omega)).here
  obtain ⟨⟨⟨⟨⟨_, p1⟩, p2⟩, p3⟩, p4⟩, p5⟩ := hp
  refine bodyPost_ret (v := .agg #[.slice (some ⟨g1, 0, none⟩) code.length code.length, .slice (some ⟨g2, 0, none⟩) atoms.length atoms.length, .slice (some ⟨g3, 0, none⟩) N N, .slice (some ⟨g4, 0, none⟩) cells.length cells.length, .int .i64 next, .slice (some ⟨g5, 0, none⟩) out.length out.length, .int .i64 room]) (by simp [results, Try.results7, go_sem, q2]) rfl ⟨⟨some ⟨g1, 0, none⟩, code.length, some ⟨g2, 0, none⟩, atoms.length, some ⟨g3, 0, none⟩, N, some ⟨g4, 0, none⟩, cells.length, some ⟨g5, 0, none⟩, out.length⟩, rfl, ⟨rfl, ⟨p1, p2, p3, p4, p5⟩⟩, ?_⟩
  have n1 : w.heap.size ≤ w.heap.size + 1 := by omega
  have n2 : w.heap.size ≤ w.heap.size + 1 + 1 := by omega
  iterate 7 (refine Below.setCell ?_ n1 _)
  iterate 2 (refine Below.setCell ?_ n2 _)
  exact HBF.out
end Go.Proofs.Ytdglefedbkgghaa
