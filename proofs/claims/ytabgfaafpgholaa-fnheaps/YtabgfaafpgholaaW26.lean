/-
  DrawHeapOk and DrawReadTerm.
  (Ahead of it, in this text: Both kinds of HeapOk answer the same.
  The specification's HeapOk.)
-/
import Derived.Test.YtabgfaafpgholaaW18
import Derived.Test.YtabgfaafpgholaaW25
import Derived.Deep.RegionLaw
import Derived.Test.YtabgfaafpgholaaW22
namespace Go.Proofs.Ytabgfaafpgholaa
open Go.RowKit
set_option linter.unusedVariables false

def heapB (H : Hp) (R : List Int) : Bool := decide (H.N ≤ 2000) && atomsB H.A && R.all (fun x => (readT H x).isSome)
theorem heapB_big {H : Hp} {R : List Int} (h : ¬ H.N ≤ 2000) : heapB H R = false := by simp [heapB, h]
theorem heapB_atoms {H : Hp} {R : List Int} (h : atomsB H.A = false) : heapB H R = false := by simp [heapB, h]
theorem heapB_root {H : Hp} {R : List Int} {x : Int} (hm : x ∈ R) (h : readT H x = none) : heapB H R = false := by
  have : R.all (fun x => (readT H x).isSome) = false := by
    rw [List.all_eq_false]
    exact ⟨x, hm, by rw [h]; simp⟩
  rw [heapB, this, Bool.and_false]
theorem heapB_yes {H : Hp} {R : List Int} (h1 : H.N ≤ 2000) (h2 : atomsB H.A = true) (h3 : ∀ x ∈ R, (readT H x).isSome = true) : heapB H R = true := by
  have : R.all (fun x => (readT H x).isSome) = true := by rw [List.all_eq_true]; exact h3
  simp [heapB, h1, h2, this]
theorem heapB_all {H : Hp} {R : List Int} (h1 : H.N ≤ 2000) (h2 : atomsB H.A = true) : heapB H R = Gn.allB (Gn.flat H) R := by
  unfold heapB Gn.allB
  have e : (fun x => (Gn.readT (Gn.flat H) x).isSome) = fun x => (readT H x).isSome := funext fun x => by rw [Gn.flat_readT]
  rw [e, h2]
  simp [h1]
set_option maxHeartbeats 2000000 in
set_option maxRecDepth 100000 in
theorem implHeapOk_any (E : Env) (w : World) (h : Src E w) (hl : Gn.Lst E.wv E.b E.o E.H.N E.cap) (rv : Option Addr) (rcap : Nat) (R : List Int) (hr : Roots w rv R) (hR : R.length ≤ 1048576) (hb : ∀ x ∈ R, x ≤ 9223372036854775807) :
    Calls Try.prog 25 #[.agg #[.slice E.wv E.H.N E.cap], .slice E.av E.H.A.length E.acap, .slice rv R.length rcap] w fun e w' => e = .returned (.bool (heapB E.H R)) ∧ Below w.heap.size w w' := by
  have HS : Hid (Src E w) := h
  have HLS : Hid (Gn.Lst E.wv E.b E.o E.H.N E.cap) := hl
  have HR : Hid (Roots w rv R) := hr
  have HRL : Hid (R.length ≤ 1048576) := hR
  have HBR : Hid (∀ x ∈ R, x ≤ 9223372036854775807) := hb
  have hN := h.ok.n
  have HB1 : Hid (Below w.heap.size w (w.alloc (.cells #[.slice E.wv E.H.N E.cap] 32))) := (Below.refl _ _).alloc (Nat.le_refl _) _
  have q1 : (w.alloc (.cells #[.slice E.wv E.H.N E.cap] 32)).cell? ⟨w.heap.size, 0, none⟩ = some (.slice E.wv E.H.N E.cap) := World.cell?_alloc_new w _ _ 0
  have hz1 : (w.alloc (.cells #[.slice E.wv E.H.N E.cap] 32)).heap.size = w.heap.size + 1 := World.size_alloc _ _
  have HAT : Hid (∀ w', Below w.heap.size w w' → Calls Try.prog 57 #[.slice E.av E.H.A.length E.acap] w' fun e w'' => e = .returned (.bool (atomsB E.H.A)) ∧ Below w'.heap.size w' w'') := fun w' hb' => by
    have s := HS.out.below hb'
    exact implAtoms_any E.ab E.ao E.acap E.av E.H.A w' s.al s.ats s.ok.a (big_txt s.txt)
  have HAR : Hid (∀ w', Below w.heap.size w w' → Calls Try.prog 58 #[.func (.func 78) #[] #[.pointer (some ⟨w'.heap.size, 0, none⟩)], .slice E.av E.H.A.length E.acap, .slice rv R.length rcap] (w'.alloc (.cells #[.slice E.wv E.H.N E.cap] 32)) fun e w'' => e = .returned (.bool (Gn.allB (Gn.flat E.H) R)) ∧ Below w.heap.size w w'') := fun w' hb' => by
    have hb2 : Below w.heap.size w (w'.alloc (.cells #[.slice E.wv E.H.N E.cap] 32)) := hb'.alloc hb'.size _
    refine Calls.mono (Gn.allRead_any (Gn.ofHeap E (w'.alloc (.cells #[.slice E.wv E.H.N E.cap] 32)) w'.heap.size) _ rfl (Gn.ofHeap_src (HS.out.below hb2) HLS.out (World.cell?_alloc_new w' _ _ 0)) rv rcap R (HR.out.below hb2) HRL.out HBR.out) ?_
    rintro e w'' ⟨rfl, hb3⟩
    exact ⟨rfl, hb2.trans (hb3.mono hb2.size)⟩
  have HHE : Hid (E.H.N ≤ 2000 → atomsB E.H.A = true → heapB E.H R = Gn.allB (Gn.flat E.H) R) := heapB_all
  clear h hr hb hl hR
  by_cases h2 : E.H.N ≤ 2000
  · have hd : decide ((E.H.N : Int) ≤ 2000) = true := by simp; omega
    cases ha : atomsB E.H.A with
    | false =>
      have HA : Hid (atomsB E.H.A = false) := ha
      have HE : Hid (heapB E.H R = false) := heapB_atoms ha
      clear ha
      go_enter Try.func25, Try.ntmps25
      go_wp2_with (first | (go_at_call 57; refine (HAT.out _ HB1.out).mono ?_; rintro e w2 ⟨rfl, hb2⟩; rw [HA.out]; have q2 : w2.cell? ⟨w.heap.size, 0, none⟩ = some (.slice E.wv E.H.N E.cap) := (by rw [hb2.cell (p := ⟨w.heap.size, 0, none⟩) (by show w.heap.size < _; omega)]; exact q1); have HB2 : Hid (Below w.heap.size w w2) := HB1.out.trans (hb2.mono (by rw [World.size_alloc]; omega)); clear hb2))
      go_ret
      exact ⟨ret_bool HE.out.symm, HB2.out⟩
    | true =>
      have HA : Hid (atomsB E.H.A = true) := ha
      have HE : Hid (heapB E.H R = Gn.allB (Gn.flat E.H) R) := HHE.out h2 ha
      clear ha
      go_enter Try.func25, Try.ntmps25
      go_wp2_with (first | (go_at_call 57; refine (HAT.out _ HB1.out).mono ?_; rintro e w2 ⟨rfl, hb2⟩; rw [HA.out]; have q2 : w2.cell? ⟨w.heap.size, 0, none⟩ = some (.slice E.wv E.H.N E.cap) := (by rw [hb2.cell (p := ⟨w.heap.size, 0, none⟩) (by show w.heap.size < _; omega)]; exact q1); have HB2 : Hid (Below w.heap.size w w2) := HB1.out.trans (hb2.mono (by rw [World.size_alloc]; omega)); clear hb2) | (go_at_call 59; refine (Gn.heapFrom_any _ _ _ _).mono ?_; rintro e w3 ⟨rfl, rfl⟩) | (go_at_call 58; refine (HAR.out _ HB2.out).mono ?_; rintro e w4 ⟨rfl, hb4⟩; have HB4 : Hid (Below w.heap.size w w4) := hb4; clear hb4))
      go_ret
      exact ⟨ret_bool HE.out.symm, HB4.out⟩
  · have hd : decide ((E.H.N : Int) ≤ 2000) = false := by simp; omega
    have HE : Hid (heapB E.H R = false) := heapB_big h2
    go_enter Try.func25, Try.ntmps25
    go_wp2_with fail
    go_ret
    exact ⟨ret_bool HE.out.symm, HB1.out⟩
end Go.Proofs.Ytabgfaafpgholaa

namespace Go.Proofs.Ytabgfaafpgholaa
open Go.RowKit
set_option linter.unusedVariables false

end Go.Proofs.Ytabgfaafpgholaa
namespace Go.Proofs.Ytabgfaafpgholaa
open Go.RowKit
set_option linter.unusedVariables false

theorem bjoin {a b c : World} (h : Below a.heap.size a b) (k : Below b.heap.size b c) : Below a.heap.size a c := h.trans (k.mono h.size)
theorem big5_any (ao : Option Addr) (len cap : Nat) (hl : len ≤ maxLen) (w : World) :
    Calls Try.prog 22 #[.slice ao len cap] w fun e w' => e = .returned (.bool (decide (1048576 < len))) ∧ w' = w := by
  unfold maxLen at hl
  go_enter Try.func22, Try.ntmps22
  go_wp2
  go_ret
  exact ⟨by simp; try omega, rfl⟩
/-- Words, atoms and roots, as they are read. -/
structure Hp5 (w : World) (p : Option Addr) (b r : Nat) (xs : List Int) (ga : Nat) (A : List ByteArray) (gr : Nat) (ws : List Int) : Prop where
  lst : Gn.Lst p b 0 xs.length r
  wc : ∀ j (h : j < xs.length), w.cell? ⟨b, j, none⟩ = some (.int .i64 xs[j])
  tx : Txt w ga 0 A
  rt : ∀ j (h : j < ws.length), w.cell? ⟨gr, j, none⟩ = some (.int .i64 ws[j])
  xl : xs.length ≤ 2000
  al : A.length ≤ 501
  wl : ws.length ≤ 6
  wn : ws ≠ []
  bw : BW xs A ws
theorem E5.hp {cb : Nat} {ao : Option Addr} {len cap : Nat} {zs : List Int} {w wr : World} {p : Option Addr} {b r : Nat} {xs : List Int} {ga : Nat} {A : List ByteArray} {gr : Nat} {ws : List Int} (h : E5 cb ao len cap zs w wr p b r xs ga A gr ws) : Hp5 wr p b r xs ga A gr ws := ⟨h.lst, h.wc, h.tx, h.rt, h.xl, h.al, h.wl, h.wn, h.bw⟩
theorem Hp5.below {w w' : World} {p : Option Addr} {b r : Nat} {xs : List Int} {ga : Nat} {A : List ByteArray} {gr : Nat} {ws : List Int} (h : Hp5 w p b r xs ga A gr ws) (hb : Below w.heap.size w w') : Hp5 w' p b r xs ga A gr ws := by
  have e : ∀ b o v, w.cell? ⟨b, o, none⟩ = some v → w'.cell? ⟨b, o, none⟩ = some v := fun b o v hc => by
    rw [hb.cell (p := ⟨b, o, none⟩) (World.block_lt_of_cell? w _ hc)]; exact hc
  exact ⟨h.lst, fun j hj => e _ _ _ (h.wc j hj), h.tx.below hb, fun j hj => e _ _ _ (h.rt j hj), h.xl, h.al, h.wl, h.wn, h.bw⟩
/-- The environment that is read in. -/
def env5 (p : Option Addr) (b r : Nat) (xs : List Int) (ga ca : Nat) (A : List ByteArray) : Env := ⟨⟨xs.length, fun j => xs.getD j 0, A⟩, 0, p, b, 0, r, some ⟨ga, 0, none⟩, ga, 0, ca⟩
theorem Hp5.src {w : World} {p : Option Addr} {b r : Nat} {xs : List Int} {ga : Nat} {A : List ByteArray} {gr : Nat} {ws : List Int} (h : Hp5 w p b r xs ga A gr ws) (ca : Nat) : Src (env5 p b r xs ga ca A) w := by
  refine ⟨⟨by have := h.xl; show xs.length ≤ _; omega, by have := h.al; show A.length ≤ _; omega⟩, ?_, fun _ => rfl, ?_, h.tx, ?_, ?_, ?_⟩
  · intro hn
    rcases h.lst with ⟨e, _⟩ | ⟨_, e, _⟩
    · exact e
    · exact absurd e hn
  · intro j hj
    have hj' : j < xs.length := hj
    show w.cell? ⟨b, 0 + j, none⟩ = some (.int .i64 (xs.getD j 0))
    rw [Nat.zero_add, h.wc j hj']
    simp [hj']
  · show xs.length ≤ r
    rcases h.lst with ⟨_, e⟩ | ⟨_, e1, e2⟩ <;> omega
  · intro j
    show xs.getD j 0 ≤ _
    by_cases hj : j < xs.length
    · have e : xs.getD j 0 = xs[j] := by simp [hj]
      rw [e]
      have := h.bw.1 xs[j] (List.getElem_mem hj)
      omega
    · have e : xs.getD j 0 = 0 := by simp [hj]
      rw [e]; decide
  · intro s hs
    have := h.bw.2.1 s hs
    omega
theorem Hp5.roots {w : World} {p : Option Addr} {b r : Nat} {xs : List Int} {ga : Nat} {A : List ByteArray} {gr : Nat} {ws : List Int} (h : Hp5 w p b r xs ga A gr ws) : Roots w (some ⟨gr, 0, none⟩) ws := fun _ => ⟨gr, 0, rfl, fun j hj => by rw [Nat.zero_add]; exact h.rt j hj⟩
theorem Hp5.big {w : World} {p : Option Addr} {b r : Nat} {xs : List Int} {ga : Nat} {A : List ByteArray} {gr : Nat} {ws : List Int} (h : Hp5 w p b r xs ga A gr ws) : ∀ x ∈ ws, x ≤ 9223372036854775807 := fun x hx => by have := h.bw.2.2 x hx; omega
end Go.Proofs.Ytabgfaafpgholaa
