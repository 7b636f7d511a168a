/-
  A term in memory of its own (the program's copy of one term).
-/
import Derived.Test.YtimnnedmpmlmdaaOsG
import Derived.Test.YtimnnedmpmlmdaaTmI
namespace Go.Proofs.Ytimnnedmpmlmdaa
open Go.RowKit Atom
set_option linter.unusedVariables false

theorem keepOt {w w' : World} (h : Below w.heap.size w w') {b o : Nat} {v : Value} (hc : w.cell? ⟨b, o, none⟩ = some v) : w'.cell? ⟨b, o, none⟩ = some v := by
  rw [h.cell (p := ⟨b, o, none⟩) (World.block_lt_of_cell? w ⟨b, o, none⟩ hc)]; exact hc
theorem OsV.top {w : World} {bs : List Nat} {k n : Int} {s : ByteArray} {l : List Tm} {ao : Option Addr} {cap : Nat} (h : OsV w bs (.mk k n s l) (.agg #[.int .i64 k, .int .i64 n, .string s, .slice ao l.length cap])) : s.size ≤ 1048576 ∧ l.length ≤ cap ∧ cap ≤ maxLen ∧ OsL w l bs ao := by
  obtain ⟨ao', cap', e, h1, h2, h3, h4⟩ := h
  simp only [Value.agg.injEq, Array.mk.injEq, List.cons.injEq, and_true, Value.slice.injEq, true_and] at e
  obtain ⟨rfl, rfl⟩ := e
  exact ⟨h1, h2, h3, h4⟩

set_option maxHeartbeats 1000000 in
set_option maxRecDepth 100000 in
theorem ownTerm_any (t : Tm) (bs : List Nat) (v : Value) (w : World) (h : OsV w bs t v) (hnd : bs.Nodup) (hn : ntL [t] ≤ 4194304) :
    Calls Try.prog 51 #[v] w fun e w' => ∃ v' bs', e = .returned v' ∧ OsV w' bs' t v' ∧ bs'.Nodup ∧ (∀ b ∈ bs', w.heap.size ≤ b) ∧ Below w.heap.size w w' := by
  obtain ⟨k, n, s, l⟩ := t
  obtain ⟨ao, cap, rfl, hs, hl, hc, ho⟩ := h
  have hlt := OsL.lt l bs ao ho
  obtain ⟨W, hW⟩ : ∃ W, W = ((w.alloc (.cells #[.int .i64 k, .int .i64 n, .string s, .slice ao l.length cap] 30)).alloc (.cells #[.int .i64 0, .int .i64 0, .string ⟨#[]⟩, .slice none 0 0] 30)).alloc (.cells #[.int .i64 k, .int .i64 n, .string s, .slice ao l.length cap] 30) := ⟨_, rfl⟩
  have hbW : Below w.heap.size w W := by rw [hW]; exact (((Below.refl _ _).alloc (Nat.le_refl _) _).alloc (by simp) _).alloc (by simp; omega) _
  have h3 := three_new (w := w) (w1 := W) (c1 := #[.int .i64 k, .int .i64 n, .string s, .slice ao l.length cap]) (c2 := #[.int .i64 0, .int .i64 0, .string ⟨#[]⟩, .slice none 0 0]) (c3 := #[.int .i64 k, .int .i64 n, .string s, .slice ao l.length cap]) (t1 := 30) (t2 := 30) (t3 := 30) (by rw [hW]; exact Below.refl _ _)
  obtain ⟨hz, q2, q3, f2, f3⟩ := h3
  have hzW : W.heap.size = w.heap.size + 3 := by rw [hW]; simp
  have hos : OsL W [.mk k n s l] ((w.heap.size + 1 + 1) :: (bs ++ [])) (some ⟨w.heap.size + 1 + 1, 0, none⟩) := by
    rw [OsL]
    refine ⟨w.heap.size + 1 + 1, 0, bs, [], rfl, rfl, f3, ?_, by rw [OsR]⟩
    rw [OsT]
    exact ⟨q3 0, q3 1, q3 2, hs, ao, cap, q3 3, hl, hc, OsL.below hbW ho⟩
  have hnd2 : ((w.heap.size + 1 + 1) :: (bs ++ [])).Nodup := by
    rw [List.append_nil, List.nodup_cons]
    exact ⟨fun hm => by have := hlt _ hm; omega, hnd⟩
  have HOWN : Hid (Calls Try.prog 63 #[.slice (some ⟨w.heap.size + 1 + 1, 0, none⟩) 1 1] W (OwnP W [.mk k n s l])) := ownTerms_any [.mk k n s l] _ _ 1 W hos (.inr hnd2) hn
  have HBW : Hid (Below w.heap.size w W) := hbW
  have HQ : Hid (∀ w1, Below W.heap.size W w1 → w1.cell? ⟨w.heap.size + 1, 0, none⟩ = some (.int .i64 0) ∧ w1.cell? ⟨w.heap.size + 1, 1, none⟩ = some (.int .i64 0) ∧ w1.cell? ⟨w.heap.size + 1, 2, none⟩ = some (.string ⟨#[]⟩) ∧ w1.cell? ⟨w.heap.size + 1, 3, none⟩ = some (.slice none 0 0) ∧ (∀ z, w1.frozen? ⟨w.heap.size + 1, z, none⟩ = false)) := fun w1 hb =>
    ⟨keepOt hb (q2 0), keepOt hb (q2 1), keepOt hb (q2 2), keepOt hb (q2 3), fun z => by rw [hb.frozen (p := ⟨w.heap.size + 1, z, none⟩) (by show w.heap.size + 1 < _; omega)]; exact f2 z⟩
  clear hos hnd2 hbW hlt ho hs hl hc hnd hn q2 q3 f2 f3 hz
  go_enter Try.func51, Try.ntmps51
  go_wp2_with (go_at_call 63; fail)
  rw [← hW]
  clear hW
  refine HOWN.out.mono ?_
  rintro e w1 ⟨ao', cap', bs', rfl, hl1, hl2, ho1, hnd1, hlo1, hb1⟩
  rw [OsL] at ho1
  obtain ⟨g, o, c1, c2, eb, ea, hfz, hT, hR⟩ := ho1
  rw [OsR] at hR
  subst hR eb ea
  rw [List.append_nil] at hnd1 hlo1
  rw [OsT] at hT
  obtain ⟨d0, d1, d2, hs2, ao2, cap2, d3, hle2, hcp2, hol2⟩ := hT
  have hgo := hlo1 g (by simp)
  have HR1 : Hid (OsL w1 l c1 ao2 ∧ c1.Nodup ∧ (∀ b ∈ c1, W.heap.size ≤ b) ∧ s.size ≤ 1048576 ∧ l.length ≤ cap2 ∧ cap2 ≤ maxLen) := ⟨hol2, (List.nodup_cons.1 hnd1).2, fun b hb => hlo1 b (by simp [hb]), hs2, hle2, hcp2⟩
  have HB1 : Hid (Below w.heap.size w w1) := HBW.out.trans (hb1.mono HBW.out.size)
  obtain ⟨r0, r1, r2, r3, rf⟩ := HQ.out w1 hb1
  have HZW : Hid (W.heap.size = w.heap.size + 3) := hzW
  clear hol2 hnd1 hlo1 hs2 hle2 hcp2 hb1 hl1 hl2 hgo hzW
  go_wp2_with fail
  refine bodyPost_ret (v := .agg #[.int .i64 k, .int .i64 n, .string s, .slice ao2 l.length cap2]) (by simp [results, Try.results51, go_sem, r0, r1, r2, r3]) rfl ⟨_, c1, rfl, ⟨ao2, cap2, rfl, HR1.out.2.2.2.1, HR1.out.2.2.2.2.1, HR1.out.2.2.2.2.2, OsL.keep _ _ _ (fun x hx _ => ?_) HR1.out.1⟩, HR1.out.2.1, fun b hb => ?_, ?_⟩
  · have h1 := HR1.out.2.2.1 x hx
    have h2 := HZW.out
    rw [Below.heap_setCell _ ⟨w.heap.size + 1, 3, none⟩ _ x (by show x ≠ w.heap.size + 1; omega), Below.heap_setCell _ ⟨w.heap.size + 1, 2, none⟩ _ x (by show x ≠ w.heap.size + 1; omega), Below.heap_setCell _ ⟨w.heap.size + 1, 1, none⟩ _ x (by show x ≠ w.heap.size + 1; omega), Below.heap_setCell _ ⟨w.heap.size + 1, 0, none⟩ _ x (by show x ≠ w.heap.size + 1; omega)]
  · have h1 := HR1.out.2.2.1 b hb
    have h2 := HZW.out
    omega
  · exact (((HB1.out.setCell (by show w.heap.size ≤ w.heap.size + 1; omega) _).setCell (by show w.heap.size ≤ w.heap.size + 1; omega) _).setCell (by show w.heap.size ≤ w.heap.size + 1; omega) _).setCell (by show w.heap.size ≤ w.heap.size + 1; omega) _
end Go.Proofs.Ytimnnedmpmlmdaa
