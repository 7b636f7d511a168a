/-
  Three terms that are drawn: what DrawTerms answers.
-/
import Derived.Test.YtklcpogpnoghkaaDrE
namespace Go.Proofs.Ytklcpogpnoghkaa
open Go.RowKit
set_option linter.unusedVariables false

abbrev Z26 : Obj := .cells #[.int .i64 0, .int .i64 0, .string ⟨#[]⟩, .slice none 0 0] 26

theorem three_zero (w : World) : (((w.alloc Z26).alloc Z26).alloc Z26).heap.size = w.heap.size + 3 ∧ Below w.heap.size w (((w.alloc Z26).alloc Z26).alloc Z26) ∧
    (∀ r o, w.heap.size ≤ r → r < w.heap.size + 3 → (((w.alloc Z26).alloc Z26).alloc Z26).cell? ⟨r, o, none⟩ = (#[.int .i64 0, .int .i64 0, .string ⟨#[]⟩, .slice none 0 0] : Array Value)[o]? ∧ (((w.alloc Z26).alloc Z26).alloc Z26).frozen? ⟨r, o, none⟩ = false) := by
  have hs : (((w.alloc Z26).alloc Z26).alloc Z26).heap.size = w.heap.size + 3 := by rw [World.size_alloc, World.size_alloc, World.size_alloc]
  refine ⟨hs, ?_, fun r o h0 h1 => ?_⟩
  · exact (((Below.refl _ _).alloc (Nat.le_refl _) _).alloc (by rw [World.size_alloc]; omega) _).alloc (by rw [World.size_alloc, World.size_alloc]; omega) _
  · have hb : (((w.alloc Z26).alloc Z26).alloc Z26).heap[r]? = some (.cells #[.int .i64 0, .int .i64 0, .string ⟨#[]⟩, .slice none 0 0] 26 (0, 0)) := by
      show (((w.heap.push _).push _).push _)[r]? = _
      rw [Array.getElem?_push, Array.size_push, Array.size_push]
      by_cases h2 : r = w.heap.size + 1 + 1
      · rw [if_pos h2]
      · rw [if_neg h2, Array.getElem?_push, Array.size_push]
        by_cases h3 : r = w.heap.size + 1
        · rw [if_pos h3]
        · rw [if_neg h3, Array.getElem?_push, if_pos (by omega)]
    exact ⟨cell_of hb, frozen_of hb⟩

theorem cell4 {cb : Nat} {w3 w4 : World} (t : Turn cb w3 w4) {b o : Nat} (hn : b ≠ cb) (hl : b < w3.heap.size) {x : Option Value} (h : w3.cell? ⟨b, o, none⟩ = x) : w4.cell? ⟨b, o, none⟩ = x := by
  rw [World.cell?_of_block (w := w3) (t.block b hl hn)]; exact h
theorem cell5 {cb n n2 : Nat} {w3 w4 : World} (t : Turn cb w3 w4) (hcl : n + 3 ≤ cb) (hA2 : n + 4 ≤ n2) (hs3 : w3.heap.size = n2 + 2) {c : Array Value} (h : ∀ r o, n ≤ r → r < n + 3 → w3.cell? ⟨r, o, none⟩ = c[o]? ∧ w3.frozen? ⟨r, o, none⟩ = false) (r o : Nat) (h0 : n ≤ r) (h1 : r < n + 3) :
    w4.cell? ⟨r, o, none⟩ = c[o]? ∧ w4.frozen? ⟨r, o, none⟩ = false := by
  rw [World.cell?_of_block (w := w3) (t.block r (by omega) (by omega)), World.frozen?_of_block (w := w3) (t.block r (by omega) (by omega))]; exact h r o h0 h1
theorem ne_of {n n2 cb : Nat} (h : cb = n + 3) (h2 : n + 4 ≤ n2) : n2 ≠ cb := by omega
theorem ne_of1 {n n2 cb : Nat} (h : cb = n + 3) (h2 : n + 4 ≤ n2) : n2 + 1 ≠ cb := by omega
theorem lt_of {n m : Nat} (h : m = n + 2) : n < m := by omega
theorem lt_of1 {n m : Nat} (h : m = n + 2) : n + 1 < m := by omega
theorem lt3 (n : Nat) : n < n + 3 := by omega
theorem lt31 (n : Nat) : n + 1 < n + 3 := by omega
theorem lt32 (n : Nat) : n + 1 + 1 < n + 3 := by omega
theorem le32 (n : Nat) : n ≤ n + 1 + 1 := by omega

theorem Moves.belowN {S : Nat → Prop} {w w' : World} (h : Below w.heap.size w w') : Moves (fun b => S b ∧ Nf w b) (fun b => S b ∧ Nf w' b) w w' :=
  (Moves.below h).nf (fun b o v hb hc hq => hq.blk (h.block b (World.block_lt_of_cell? w _ hc)))
set_option maxRecDepth 100000 in
set_option maxHeartbeats 4000000 in
theorem terms_draw (w : World) (ao : Option Addr) (len cap : Nat) (zs : List Int) (hr : IsRow w ao len cap zs) (hsm : len ≤ 1048576) :
    Calls Try.prog 5 #[.slice ao len cap] w fun e w' => ∃ ta tb tc va vb vc, e = .returned (.tuple #[va, vb, vc]) ∧ RpV (Nf w') w' ta va ∧ RpV (Nf w') w' tb vb ∧ RpV (Nf w') w' tc vc ∧ RtT 2 ta ∧ RtT 2 tb ∧ RtT 2 tc ∧ Below w.heap.size w w' := by
  have HR : Hid (IsRow w ao len cap zs) := hr
  clear hr
  have DR : Hid (∀ (cb d : Nat), d ≤ 6 → DrU cb ao len cap zs d) := fun cb => drU_all cb ao len cap zs
  go_enter Try.func5, Try.ntmps5
  go_wp2_with fail
  obtain ⟨hs0, hb0, q0⟩ := three_zero w
  generalize (((w.alloc Z26).alloc Z26).alloc Z26) = W at hb0 q0 hs0 ⊢
  refine (new_any _ ao len cap zs (HR.out.below hb0) hsm).mono ?_
  rintro e w1 ⟨rfl, hc1, hb1, hz1⟩
  obtain ⟨cb, hcb⟩ : ∃ cb, cb = W.heap.size := ⟨_, rfl⟩
  rw [← hcb] at hc1 ⊢
  have HB1 : Hid (Below w.heap.size w w1) := hb0.trans (hb1.mono (by omega))
  have HQ1 : Hid (∀ r o, w.heap.size ≤ r → r < w.heap.size + 3 → w1.cell? ⟨r, o, none⟩ = (#[.int .i64 0, .int .i64 0, .string ⟨#[]⟩, .slice none 0 0] : Array Value)[o]? ∧ w1.frozen? ⟨r, o, none⟩ = false) := fun r o h0 h1 => by
    rw [hb1.cell (p := ⟨r, o, none⟩) (by show r < _; omega), hb1.frozen (p := ⟨r, o, none⟩) (by show r < _; omega)]; exact q0 r o h0 h1
  have HC1 : Hid (Cur cb ao len cap zs w1) := hc1
  have HZ1 : Hid (w1.heap.size = w.heap.size + 4 ∧ cb = w.heap.size + 3) := ⟨by omega, by omega⟩
  have HR1 : Hid (IsRow w1 ao len cap zs) := HR.out.below HB1.out
  clear hb0 q0 hs0 hb1 hc1 hz1 hcb W
  go_wp2_with fail
  refine (less_draw w1 ao len cap zs HR1.out hsm).mono ?_
  rintro e w2 ⟨ta, tb, va, vb, rfl, hva, hvb, hwa, hwb, hb2⟩
  have hva2 : ∃ a b c d e f, va = .agg #[.int .i64 a, .int .i64 b, .string c, .slice d e f] := by
    obtain ⟨k', n', s', l'⟩ := ta
    obtain ⟨ao', cap', e', _⟩ := hva
    exact ⟨_, _, _, _, _, _, e'⟩
  have hvb2 : ∃ a b c d e f, vb = .agg #[.int .i64 a, .int .i64 b, .string c, .slice d e f] := by
    obtain ⟨k', n', s', l'⟩ := tb
    obtain ⟨ao', cap', e', _⟩ := hvb
    exact ⟨_, _, _, _, _, _, e'⟩
  obtain ⟨ak, an, as', ad, ae, af, rfl⟩ := hva2
  obtain ⟨bk, bn, bs, bd, be, bf, rfl⟩ := hvb2
  have HVA : Hid (RpV (fun b => w1.heap.size ≤ b ∧ Nf w2 b) w2 ta (.agg #[.int .i64 ak, .int .i64 an, .string as', .slice ad ae af])) := hva
  have HVB : Hid (RpV (fun b => w1.heap.size ≤ b ∧ Nf w2 b) w2 tb (.agg #[.int .i64 bk, .int .i64 bn, .string bs, .slice bd be bf])) := hvb
  have HW : Hid (RtT 2 ta ∧ RtT 2 tb) := ⟨hwa, hwb⟩
  have HB2 : Hid (Below w1.heap.size w1 w2) := hb2
  clear hva hvb hwa hwb hb2
  go_wp2_with fail
  have hz2 := HB2.out.size
  have hw1 := HZ1.out.1
  have hcbw := HZ1.out.2
  have hs3 : ((w2.alloc (.cells #[.int .i64 ak, .int .i64 an, .string as', .slice ad ae af] 26)).alloc (.cells #[.int .i64 bk, .int .i64 bn, .string bs, .slice bd be bf] 26)).heap.size = w2.heap.size + 2 := by rw [World.size_alloc, World.size_alloc]
  have hb3 : Below w2.heap.size w2 ((w2.alloc (.cells #[.int .i64 ak, .int .i64 an, .string as', .slice ad ae af] 26)).alloc (.cells #[.int .i64 bk, .int .i64 bn, .string bs, .slice bd be bf] 26)) := ((Below.refl _ _).alloc (Nat.le_refl _) _).alloc (by rw [World.size_alloc]; omega) _
  have qa : ∀ o, ((w2.alloc (.cells #[.int .i64 ak, .int .i64 an, .string as', .slice ad ae af] 26)).alloc (.cells #[.int .i64 bk, .int .i64 bn, .string bs, .slice bd be bf] 26)).cell? ⟨w2.heap.size, o, none⟩ = (#[.int .i64 ak, .int .i64 an, .string as', .slice ad ae af] : Array Value)[o]? := fun o => by
    rw [World.cell?_alloc_lt (h := by rw [World.size_alloc]; exact Nat.lt_succ_self _), World.cell?_alloc_new]
  have qb : ∀ o, ((w2.alloc (.cells #[.int .i64 ak, .int .i64 an, .string as', .slice ad ae af] 26)).alloc (.cells #[.int .i64 bk, .int .i64 bn, .string bs, .slice bd be bf] 26)).cell? ⟨w2.heap.size + 1, o, none⟩ = (#[.int .i64 bk, .int .i64 bn, .string bs, .slice bd be bf] : Array Value)[o]? := fun o => by
    have := World.cell?_alloc_new (w2.alloc (.cells #[.int .i64 ak, .int .i64 an, .string as', .slice ad ae af] 26)) #[.int .i64 bk, .int .i64 bn, .string bs, .slice bd be bf] 26 o
    rw [World.size_alloc] at this; exact this
  generalize ((w2.alloc (.cells #[.int .i64 ak, .int .i64 an, .string as', .slice ad ae af] 26)).alloc (.cells #[.int .i64 bk, .int .i64 bn, .string bs, .slice bd be bf] 26)) = w3 at hs3 hb3 qa qb ⊢
  have hb13 : Below w1.heap.size w1 w3 := HB2.out.trans (hb3.mono hz2)
  have HC3 : Hid (Cur cb ao len cap zs w3) := HC1.out.below hb13
  have HVA3 : Hid (RpV (fun b => w1.heap.size ≤ b ∧ Nf w3 b) w3 ta (.agg #[.int .i64 ak, .int .i64 an, .string as', .slice ad ae af])) := (Moves.belowN hb3).repV HVA.out
  have HVB3 : Hid (RpV (fun b => w1.heap.size ≤ b ∧ Nf w3 b) w3 tb (.agg #[.int .i64 bk, .int .i64 bn, .string bs, .slice bd be bf])) := (Moves.belowN hb3).repV HVB.out
  have HQ3 : Hid (∀ r o, w.heap.size ≤ r → r < w.heap.size + 3 → w3.cell? ⟨r, o, none⟩ = (#[.int .i64 0, .int .i64 0, .string ⟨#[]⟩, .slice none 0 0] : Array Value)[o]? ∧ w3.frozen? ⟨r, o, none⟩ = false) := fun r o h0 h1 => by
    rw [hb13.cell (p := ⟨r, o, none⟩) (by show r < _; omega), hb13.frozen (p := ⟨r, o, none⟩) (by show r < _; omega)]; exact HQ1.out r o h0 h1
  have HB3 : Hid (Below w.heap.size w w3) := HB1.out.trans (hb13.mono (by omega))
  have hcl : w.heap.size + 3 ≤ cb := by omega
  have hch : cb < w.heap.size + 4 := by omega
  have hA2 : w.heap.size + 4 ≤ w2.heap.size := by omega
  have h26 : 2 ≤ 6 := by decide
  clear hb13 hb3 HB1 HB2 HVA HVB HC1 HQ1 HR1 hw1 hcbw hz2
  go_region_with (go_at_call 11; refine (DR.out cb 2 h26 _ ?_).mono ?_; exact HC3.out.drew; rintro e w4 ⟨tc, vc, rfl, hv4, hw4, hd4⟩; obtain ⟨ck, cn, cs, cd, ce, cf, rfl⟩ := hv4.form; have HV4 : Hid (RpV (fun b => w3.heap.size ≤ b ∧ Nf w4 b) w4 tc (.agg #[.int .i64 ck, .int .i64 cn, .string cs, .slice cd ce cf])) := hv4; have HW4 : Hid (RtT 2 tc) := hw4; have HD4 : Hid (Drawn cb ao len cap zs w3 w4) := hd4.drew; clear hv4 hw4 hd4; have qa4 := fun o => cell4 HD4.out.2 (ne_of HZ1.out.2 hA2) (lt_of hs3) (qa o); have qb4 := fun o => cell4 HD4.out.2 (ne_of1 HZ1.out.2 hA2) (lt_of1 hs3) (qb o); have q4 := fun r o h0 h1 => cell5 HD4.out.2 hcl hA2 hs3 HQ3.out r o h0 h1; have r0 := fun o => (q4 w.heap.size o (Nat.le_refl _) (lt3 _)).1; have r1 := fun o => (q4 (w.heap.size + 1) o (Nat.le_succ _) (lt31 _)).1; have r2 := fun o => (q4 (w.heap.size + 1 + 1) o (le32 _) (lt32 _)).1; have f0 := fun o => (q4 w.heap.size o (Nat.le_refl _) (lt3 _)).2; have f1 := fun o => (q4 (w.heap.size + 1) o (Nat.le_succ _) (lt31 _)).2; have f2 := fun o => (q4 (w.heap.size + 1 + 1) o (le32 _) (lt32 _)).2; clear q4)
  all_goals
    go_wp2_with fail
    have hw1 := HZ1.out.1
    have hb4 : Below w.heap.size w w4 := Turn.below HB3.out (by omega) HD4.out.2 (by omega)
    have hbf := set4_below (set4_below (set4_below hb4 (Nat.le_refl _) 0 (.int .i64 ak) (.int .i64 an) (.string as') (.slice ad ae af)) (Nat.le_succ w.heap.size) 0 (.int .i64 bk) (.int .i64 bn) (.string bs) (.slice bd be bf)) (le32 w.heap.size) 0 (.int .i64 ck) (.int .i64 cn) (.string cs) (.slice cd ce cf)
    have hkf : Keeps (w.heap.size + 3) w4 _ := ((set4_keeps w4 (lt3 w.heap.size) 0 (.int .i64 ak) (.int .i64 an) (.string as') (.slice ad ae af)).trans (set4_keeps _ (lt31 w.heap.size) 0 (.int .i64 bk) (.int .i64 bn) (.string bs) (.slice bd be bf))).trans (set4_keeps _ (lt32 w.heap.size) 0 (.int .i64 ck) (.int .i64 cn) (.string cs) (.slice cd ce cf))
    have hcz := HZ1.out.2
    have hmf : ∀ {S : Nat → Prop}, (∀ b, S b → w.heap.size + 3 ≤ b) → Moves (fun b => S b ∧ Nf w4 b) (Nf (set4 (set4 (set4 w4 w.heap.size 0 (.int .i64 ak) (.int .i64 an) (.string as') (.slice ad ae af)) (w.heap.size + 1) 0 (.int .i64 bk) (.int .i64 bn) (.string bs) (.slice bd be bf)) (w.heap.size + 1 + 1) 0 (.int .i64 ck) (.int .i64 cn) (.string cs) (.slice cd ce cf))) w4 (set4 (set4 (set4 w4 w.heap.size 0 (.int .i64 ak) (.int .i64 an) (.string as') (.slice ad ae af)) (w.heap.size + 1) 0 (.int .i64 bk) (.int .i64 bn) (.string bs) (.slice bd be bf)) (w.heap.size + 1 + 1) 0 (.int .i64 ck) (.int .i64 cn) (.string cs) (.slice cd ce cf)) := fun hS b o v hb hc =>
      ⟨fun y => by rw [set4_frozen, set4_frozen, set4_frozen]; exact hb.2 y, hkf b o v (hS b hb.1) hc⟩
    have hra := (hmf (fun b hb => by omega)).repV ((Moves.turnN (S := fun b => w1.heap.size ≤ b) (fun b hb => by omega) HD4.out.2).repV HVA3.out)
    have hrb := (hmf (fun b hb => by omega)).repV ((Moves.turnN (S := fun b => w1.heap.size ≤ b) (fun b hb => by omega) HD4.out.2).repV HVB3.out)
    have hrc := (hmf (fun b hb => by omega)).repV HV4.out
    refine bodyPost_ret (v := .tuple #[.agg #[.int .i64 ak, .int .i64 an, .string as', .slice ad ae af], .agg #[.int .i64 bk, .int .i64 bn, .string bs, .slice bd be bf], .agg #[.int .i64 ck, .int .i64 cn, .string cs, .slice cd ce cf]]) ?_ rfl ⟨ta, tb, tc, _, _, _, rfl, hra, hrb, hrc, HW.out.1, HW.out.2, HW4.out, hbf⟩
    simp [results, Try.results5, go_sem, r0, r1, r2]
end Go.Proofs.Ytklcpogpnoghkaa
