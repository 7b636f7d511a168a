/-
  Names of lists, copies of texts, shallow copies of lists.
-/
import Derived.Test.YtimnnedmpmlmdaaOsA
import Derived.Test.YtimnnedmpmlmdaaMpB
import Derived.Test.YtimnnedmpmlmdaaClA
import Derived.Lib.SliceRun
import Derived.Maps.AppendAt
import Derived.Deep.OwnRows
import Derived.Outline
namespace Go.Proofs.Ytimnnedmpmlmdaa
open Go.RowKit
set_option linter.unusedVariables false

theorem OsR.move {w w' : World} : ∀ (l : List Tm) (bs : List Nat) (g off g' off' : Nat), (∀ x ∈ bs, x < w.heap.size → w'.heap[x]? = w.heap[x]?) → (∀ j v, j < 4 * l.length → w.cell? ⟨g, off + j, none⟩ = some v → w'.cell? ⟨g', off' + j, none⟩ = some v) → OsR w l bs g off → OsR w' l bs g' off'
  | [], bs, g, off, g', off', _, _, h => by rw [OsR] at h ⊢; exact h
  | .mk k n s m :: r, bs, g, off, g', off', hk, hc, h => by
    rw [OsR] at h ⊢
    obtain ⟨b1, b2, e, h4, h5⟩ := h
    subst e
    rw [OsT] at h4
    obtain ⟨h0, h1, h2, hs, ao, cap, h3, hl, hcp, hr⟩ := h4
    refine ⟨b1, b2, rfl, ?_, OsR.move r b2 g (off + 4) g' (off' + 4) (fun x hx => hk x (List.mem_append_right _ hx)) (fun j v hj hv => ?_) h5⟩
    · rw [OsT]
      exact ⟨hc 0 _ (by simp) h0, hc 1 _ (by simp; omega) h1, hc 2 _ (by simp; omega) h2, hs, ao, cap, hc 3 _ (by simp; omega) h3, hl, hcp, OsL.keep m b1 ao (fun x hx => hk x (List.mem_append_left _ hx)) hr⟩
    · have := hc (4 + j) v (by simp; omega) (by rw [← Nat.add_assoc]; exact hv)
      rw [Nat.add_assoc]; exact this
/-- The cells of a row. -/
theorem OsR.vals {w : World} : ∀ (l : List Tm) (bs : List Nat) (g off : Nat), OsR w l bs g off → ∃ xs : List Value, xs.length = l.length * 4 ∧ (∀ j u, xs[j]? = some u → w.cell? ⟨g, off + j, none⟩ = some u) ∧ ∀ u ∈ xs, u.oneCell' = true
  | [], bs, g, off, h => ⟨[], rfl, fun j u h => by simp at h, fun u h => by cases h⟩
  | .mk k n s m :: r, bs, g, off, h => by
    rw [OsR] at h
    obtain ⟨b1, b2, e, h4, h5⟩ := h
    rw [OsT] at h4
    obtain ⟨h0, h1, h2, hs, ao, cap, h3, hl, hcp, hr⟩ := h4
    obtain ⟨xs, e1, e2, e3⟩ := OsR.vals r b2 g (off + 4) h5
    refine ⟨.int .i64 k :: .int .i64 n :: .string s :: .slice ao m.length cap :: xs, by simp [e1]; omega, fun j u hj => ?_, fun u hu => ?_⟩
    · match j, hj with
      | 0, hj => simp at hj; subst hj; exact h0
      | 1, hj => simp at hj; subst hj; exact h1
      | 2, hj => simp at hj; subst hj; exact h2
      | 3, hj => simp at hj; subst hj; exact h3
      | j + 4, hj =>
        simp at hj
        have := e2 j u hj
        rw [show off + (j + 4) = off + 4 + j by omega]; exact this
    · simp only [List.mem_cons] at hu
      rcases hu with rfl | rfl | rfl | rfl | hu
      · rfl
      · rfl
      · rfl
      · rfl
      · exact e3 u hu

theorem nameOf_any (b o n cap : Nat) (w : World) (hn : n ≠ 0) :
    Calls Try.prog 39 #[.slice (some ⟨b, o, none⟩) n cap] w fun e w' => e = .returned (nmV b o n) ∧ Below w.heap.size w w' := by
  have q : ((n : Int) == 0) = false := by simp; omega
  have hpos : 0 < n := by omega
  clear hn
  go_enter Try.func39, Try.ntmps39
  go_wp2
  refine bodyPost_ret (v := nmV b o n) (by simp [results, Try.results39, go_sem]) rfl ⟨rfl, ?_⟩
  exact (Below.refl _ _).alloc (Nat.le_refl _) _

theorem infoParts9 {e : TypeId} {z : Value} {n b : Nat} (h : (Try.prog.info? e).map (fun i => (i.zero, i.size, i.bytes)) = some (some z, n, b)) : ∃ i, Try.prog.info? e = some i ∧ i.zero = some z ∧ i.size = n ∧ i.bytes = b := by
  obtain ⟨i, hi, he⟩ := Option.map_eq_some_iff.1 h
  simp only [Prod.mk.injEq] at he
  exact ⟨i, hi, he.1, he.2.1, he.2.2⟩

/-- The block of a row of terms that has room for c of them. -/
def Szd (w : World) (g c : Nat) : Prop := ∃ cur, w.heap[g]? = some (.cells cur 30 (0, 0)) ∧ cur.size = c * 4
theorem Szd.keep {w w' : World} {g c : Nat} (h : Szd w g c) (hb : w'.heap[g]? = w.heap[g]?) : Szd w' g c := by
  obtain ⟨cur, h1, h2⟩ := h
  exact ⟨cur, hb.trans h1, h2⟩
theorem Szd.set {w : World} {g c : Nat} (h : Szd w g c) (o : Nat) (v : Value) : Szd (w.setCell ⟨g, o, none⟩ v) g c := by
  obtain ⟨cur, h1, h2⟩ := h
  refine ⟨cur.setIfInBounds o v, ?_, by rw [Array.size_setIfInBounds]; exact h2⟩
  simp [World.setCell, Array.getElem?_modify, h1]

set_option maxHeartbeats 1000000 in
theorem clone_any (l : List Tm) (bs : List Nat) (b o cap : Nat) (w : World) (h : OsR w l bs b o) (hne : l ≠ []) (hlen : l.length ≤ 4194304) (hbl : ∀ x ∈ bs, x < w.heap.size) :
    Calls Try.prog 77 #[.slice (some ⟨b, o, none⟩) l.length cap] w fun e w' => ∃ g c, e = .returned (.slice (some ⟨g, 0, none⟩) l.length c) ∧ l.length ≤ c ∧ c ≤ maxLen ∧ w.heap.size ≤ g ∧ g < w'.heap.size ∧ OsR w' l bs g 0 ∧ (∀ x, w'.frozen? ⟨g, x, none⟩ = false) ∧ Below w.heap.size w w' ∧ Szd w' g c := by
  obtain ⟨xs, e1, e2, e3⟩ := OsR.vals l bs b o h
  have hnil := fun (w : World) (a : Option Addr) (n c : Nat) => Go.Lib.run_eql_slice_nil (P := Try.prog) w 28 30 a n c 0 0 underlying24
  obtain ⟨i0, hi, hz, hs, hb⟩ := infoParts9 info26
  have HI : Hid (Try.prog.info? 30 = some i0 ∧ i0.zero = some (.agg #[.int .i64 0, .int .i64 0, .string ⟨#[]⟩, .slice none 0 0]) ∧ i0.size = 4 ∧ i0.bytes = 56) := ⟨hi, hz, hs, hb⟩
  have HO : Hid ((w.alloc (.cells #[] 30)).ownsRow w.heap.size 30 4 (.slice (some ⟨w.heap.size, 0, none⟩) 0 0) 0 []) := World.ownsRow_made w #[] 0 (Nat.le_refl _) (Nat.zero_le _) rfl
  have HB : Hid (Below w.heap.size w (w.alloc (.cells #[] 30))) := (Below.refl _ _).alloc (Nat.le_refl _) _
  have HL : Hid (xs.length = l.length * 4) := e1
  have HC : Hid (∀ j u, xs[j]? = some u → (w.alloc (.cells #[] 30)).cell? ((⟨b, o, none⟩ : Addr).add j) = some u) := fun j u hj => by
    have hc := e2 j u hj
    have hlt := World.block_lt_of_cell? w _ hc
    rw [Addr.add_lit, HB.out.cell (p := ⟨b, o + j, none⟩) hlt]; exact hc
  have H1 : Hid (∀ u ∈ xs, u.oneCell' = true) := e3
  have C3 : Hid (0 + l.length ≤ maxLen) := by show _ ≤ _; unfold maxLen; omega
  have C4 : Hid ((0 + l.length) * 56 ≤ 140737488355328) := by show _ ≤ _; omega
  have HR : Hid (OsR w l bs b o) := h
  have HE2 : Hid (∀ j u, xs[j]? = some u → w.cell? ⟨b, o + j, none⟩ = some u) := e2
  have hpos : l.length ≠ 0 := fun e => hne (List.eq_nil_of_length_eq_zero e)
  have HPOS : Hid (l.length ≠ 0) := hpos
  have HBL : Hid (∀ x ∈ bs, x < w.heap.size) := hbl
  clear h hne e1 e2 e3 hi hz hs hb hpos hbl
  go_enter Try.func77, Try.ntmps77
  go_wp2_with (at_builtin; refine wpList_append_own_at _ rfl _ _ 28 rfl w.heap.size 30 i0 (.agg #[.int .i64 0, .int .i64 0, .string ⟨#[]⟩, .slice none 0 0]) 4 56 underlying24 HI.out.1 HI.out.2.1 HI.out.2.2.1 HI.out.2.2.2 rfl (by decide) (.slice (some ⟨w.heap.size, 0, none⟩) 0 0) 0 [] rfl HO.out ⟨b, o, none⟩ l.length cap xs rfl HL.out HC.out H1.out C3.out C4.out HB.out.size ?_; intro v2 w2 hown2 hgr2 hnn2 hat2; have HOWN : Hid (w2.ownsRow w.heap.size 30 4 v2 (0 + l.length) ([] ++ xs)) := hown2; have HGR : Hid ((w.alloc (.cells #[] 30)).grownBy w2 (some w.heap.size)) := hgr2; clear hown2 hgr2 hnn2 hat2)
  go_ret
  have hB2 : Below w.heap.size w w2 := HB.out.grown HGR.out HB.out.size (fun k hk => by injection hk with hk; omega)
  have ho := HOWN.out
  rw [Nat.zero_add, List.nil_append] at ho
  obtain ⟨_, h1 | ⟨g, c, cur, rfl, hg, hh, hn, hc, hsz, htk⟩⟩ := ho
  · exact absurd h1.2 HPOS.out
  · have hcell : ∀ x, w2.cell? ⟨g, x, none⟩ = cur[x]? := fun x => by simp [World.cell?, hh]
    refine ⟨g, c, rfl, hn, hc, hg, ?_, ?_, fun x => by simp [World.frozen?, hh], hB2, cur, hh, hsz⟩
    · rcases Nat.lt_or_ge g w2.heap.size with h | h
      · exact h
      · rw [Array.getElem?_eq_none h] at hh; cases hh
    · refine OsR.move l bs b o g 0 (fun x hx hl => hB2.block x hl) (fun j v hj hv => ?_) HR.out
      have hjx : j < xs.length := by rw [HL.out]; omega
      have hx : xs[j]? = some v := by
        rw [List.getElem?_eq_getElem hjx]
        have := HE2.out j xs[j] (List.getElem?_eq_getElem hjx)
        rw [hv] at this
        exact this.symm ▸ rfl
      rw [Nat.zero_add, hcell, ← Array.getElem?_toList]
      rw [← htk, List.getElem?_take] at hx
      split at hx
      · exact hx
      · cases hx
end Go.Proofs.Ytimnnedmpmlmdaa
