/-
  What was said, drawn: the walk of DrawNoRooms.
-/
import Derived.Test.YtnfncdoiabgdjaaNrD
import Derived.Deep.RegionLaw
namespace Go.Proofs.Ytnfncdoiabgdjaa.Nr
open Go.RowKit
set_option linter.unusedVariables false

theorem sixNews {w : World} {a b c d e f : Value} {t : TypeId} : ∀ j u, [a, b, c, d, e, f][j]? = some u → (w.alloc (.cells #[a, b, c, d, e, f] t)).cell? ((⟨w.heap.size, 0, none⟩ : Addr).add j) = some u := fun j u hu =>
  World.news_of_block (w := w.alloc (.cells #[a, b, c, d, e, f] t)) (B := w.heap.size) (cs := #[a, b, c, d, e, f]) (t := t) (fr := (0, 0)) (by show (w.heap.push _)[w.heap.size]? = _; simp) j u hu

set_option maxRecDepth 100000 in
set_option maxHeartbeats 4000000 in
theorem drawNoRooms_any (w : World) (ao : Option Addr) (len cap : Nat) (zs : List Int) (hr : IsRow w ao len cap zs) (hsm : len ≤ 1048576) :
    Calls Try.prog 6 #[.slice ao len cap] w fun e w' => ∃ (l : List Sn) (g c : Nat), e = .returned (.slice (some ⟨g, 0, none⟩) l.length c) ∧ l.length ≤ c ∧ c ≤ maxLen ∧ l.length ≤ 4 ∧ RdN w' (some ⟨g, 0, none⟩) l ∧ (∀ x ∈ l, SnOk x) ∧ Below w.heap.size w w' := by
  have HR : Hid (IsRow w ao len cap zs) := hr
  clear hr
  have DR : Hid (∀ (cb d : Nat), d ≤ 6 → DrT cb ao len cap zs d) := fun cb => drT_all cb ao len cap zs
  go_enter Try.func6, Try.ntmps6
  go_wp2_with fail
  refine (new_any _ ao len cap zs HR.out hsm).mono ?_
  rintro e w1 ⟨rfl, hc1, hb1, hz1⟩
  obtain ⟨cb, hcb⟩ : ∃ cb, cb = w.heap.size := ⟨_, rfl⟩
  rw [← hcb] at hc1 ⊢
  have HB1 : Hid (Below w.heap.size w w1) := hb1
  have HZ1 : Hid (w1.heap.size = cb + 1 ∧ cb = w.heap.size) := ⟨by omega, hcb⟩
  have HC1 : Hid (Cur cb ao len cap zs w1) := hc1
  clear hb1 hz1 hcb hc1
  obtain ⟨i0, hi, hzz⟩ := Option.map_eq_some_iff.1 infoSaid
  simp only [Prod.mk.injEq] at hzz
  obtain ⟨hzz0, hzz1, hzz2⟩ := hzz
  go_wp2_with fail
  refine (below_any cb ao len cap zs _ (HC1.out.alloc _) 5 (by decide) (by decide)).mono ?_
  rintro e w2 ⟨m, rfl, hm0, hm1, hd2⟩
  obtain ⟨B, hB⟩ : ∃ B, B = w1.heap.size := ⟨_, rfl⟩
  have HG0 : Hid (Gn cb ao len cap zs B w1 w2 [] (.slice (some ⟨B, 0, none⟩) 0 0) []) := by
    have h := World.ownsRow_made (e := 31) (size := 6) w1 #[] 0 (Nat.le_refl _) (Nat.zero_le _) rfl
    have h2 : Gn cb ao len cap zs B w1 (w1.alloc (.cells #[] 31)) [] (.slice (some ⟨B, 0, none⟩) 0 0) [] := by
      rw [hB]
      exact ⟨(Drawn.refl HC1.out).alloc _, by have := HZ1.out.1; omega, by rw [World.size_alloc]; omega, Nat.le_refl _, h, RowN.nil _ _, by simp⟩
    exact h2.turn hd2
  have HBB : Hid (B = w1.heap.size) := hB
  rw [← hB]
  clear hB hd2
  obtain ⟨m, rfl⟩ : ∃ k : Nat, m = k := ⟨m.toNat, by omega⟩
  have hm : m < 5 := by omega
  clear hm0 hm1
  go_wp2_with fail
  go_loopw [4, 5] (fun u i wr => ∃ (k : Nat) (l : List Sn) (xs : List Value), i = .int .i64 k ∧ l.length + k ≤ 4 ∧ Gn cb ao len cap zs B w1 wr l u xs ∧ ∃ ga uc, u = .slice (some ⟨ga, 0, none⟩) l.length uc) (fun _ i _ => (intOf i).toNat)
  case atStart => exact ⟨m, [], _, rfl, by simp; omega, HG0.out, _, _, rfl⟩
  case round =>
    obtain ⟨k, l, xs, rfl, hlk, hg, ga, uc, rfl⟩ := hrel
    have HG : Hid (Gn cb ao len cap zs B w1 wr l (.slice (some ⟨ga, 0, none⟩) l.length uc) xs) := hg
    clear hg
    by_cases hk : 0 < k
    · go_wp2_with fail
      refine (DR.out cb 1 (by decide) _ HG.out.drawn.1).mono ?_
      rintro e w2 ⟨tt, v, rfl, hv, ht, hd2⟩
      obtain ⟨va, vb, vc, vd, ve, vf, rfl⟩ := hv.form
      go_wp2_with fail
      refine (once_any cb ao len cap zs _ (hd2.1.alloc _) 2 (by decide) (by decide)).mono ?_
      rintro e w3 ⟨x, rfl, hd3⟩
      have hcr : cb < wr.heap.size := Nat.lt_of_lt_of_le HG.out.old HG.out.wB
      have hz2 := hd2.2.size
      obtain ⟨hz3, q3, f3⟩ := turn_new (by omega) hd3.2
      have hv3 : RpV (fun p => wr.heap.size ≤ p) w3 tt (.agg #[.int .i64 va, .int .i64 vb, .string vc, .slice vd ve vf]) := (Moves.turn (cb := cb) (fun p hp => by omega) (((Turn.refl cb w2).alloc _).trans hd3.2)).repV hv
      have hd13 : Drawn cb ao len cap zs wr w3 := (hd2.alloc _).trans hd3
      have HTB : Hid (w2.heap.size < w3.heap.size ∧ w2.heap.size ≠ cb ∧ wr.heap.size ≤ w2.heap.size) := ⟨by omega, by omega, hz2⟩
      generalize w2.heap.size = tb at q3 f3 HTB ⊢
      cases x
      · obtain ⟨wb, hwb⟩ : ∃ wb, wb = w3 := ⟨_, rfl⟩
        obtain rfl := hwb
        · have hvb := hv3
          have htt : RtT 1 tt ∨ tt = NR := .inl ht
          have hdb := hd13
          have qb := q3
          have htl := HTB.out.1
          have htc := HTB.out.2.1
          clear hv hv3 ht hd2 hd3 hd13 hz2 hz3 q3 f3 w2
          have HVB : Hid (RpV (fun p => wr.heap.size ≤ p) wb tt (.agg #[.int .i64 va, .int .i64 vb, .string vc, .slice vd ve vf])) := hvb
          have HTT : Hid (RtT 1 tt ∨ tt = NR) := htt
          have HGb : Hid (Gn cb ao len cap zs B w1 wb l (.slice (some ⟨ga, 0, none⟩) l.length uc) xs) := HG.out.turn hdb
          have HOB : Hid (∀ p, wr.heap.size ≤ p → B ≤ p ∧ (Value.slice (some ⟨ga, 0, none⟩) l.length uc).ownBlock ≠ some p) := fun p hp => ⟨by have := HG.out.wB; omega, fun e => by have := (HG.out.own.lt p e).2; omega⟩
          have HQB : Hid (∀ w5, Turn cb wb w5 → ∀ o, w5.cell? ⟨tb, o, none⟩ = (#[.int .i64 va, .int .i64 vb, .string vc, .slice vd ve vf] : Array Value)[o]?) := fun w5 ht o => by
            rw [World.cell?_of_block (w := wb) (ht.block tb htl htc)]; exact qb o
          have HNC : Hid (cb < wr.heap.size) := hcr
          clear hvb htt hdb htl htc hcr
          go_wp2_with fail
          go_region_law (first
            | (refine step_append_lies _ rfl (.tmp 21) (.tmp 27) 24 rfl B 31 i0 (.agg #[.int .i64 0, .int .i64 0, .int .i64 0, .int .i64 0, .string ⟨#[]⟩, .slice none 0 0]) 6 72 undSaidS hi hzz0 hzz1 hzz2 rfl (by decide) (.slice (some ⟨ga, 0, none⟩) l.length uc) l.length xs (by simp [Act.eval]) (HG5.out.own.alloc _) ⟨w5.heap.size, 0, none⟩ 1 1 [.int .i64 z, .int .i64 1, .int .i64 va, .int .i64 vb, .string vc, .slice vd ve vf] (by simp [Act.eval]) rfl sixNews (by intro u' hu'; simp at hu'; rcases hu' with rfl | rfl | rfl | rfl | rfl | rfl <;> rfl) (by decide) (by unfold maxLen; omega) (by omega) (by have := HG5.out.wB; simp; omega) _ rfl ?_; intro g cap5 w6 hown6 hgrow6 hat6 hlt6)
            | (go_simp; go_wp2_with (go_at_call 14; refine (below_any cb ao len cap zs _ ?_ 3 (by decide) (by decide)).mono ?_; exact HGb.out.drawn.1.drew; rintro e w5 ⟨y, rfl, hy0, hy1, hd5⟩; obtain ⟨z, hz, hz0, hz9⟩ : ∃ z : Int, IntKind.i64.wrap (1 + y) = z ∧ 1 ≤ z ∧ z ≤ 3 := ⟨1 + y, by rw [IntKind.wrap_i64]; omega, by omega, by omega⟩; have HD5 : Hid (Drawn cb ao len cap zs wb w5) := hd5.drew; have HG5 : Hid (Gn cb ao len cap zs B w1 w5 l (.slice (some ⟨ga, 0, none⟩) l.length uc) xs) := HGb.out.turn HD5.out; have q5 := HQB.out w5 HD5.out.2; clear hd5)))
          all_goals
            have HV5 := (Moves.turn (cb := cb) (fun p hp => by have := HNC.out; omega) HD5.out.2).repV HVB.out
            have HG6 : Hid (Gn cb ao len cap zs B w1 w6 (l ++ [⟨z, 1, tt⟩]) (.slice (some ⟨g, 0, none⟩) (l.length + 1) cap5) _) := HG5.out.more (x := ⟨z, 1, tt⟩) HV5 HOB.out ⟨hz0, hz9, rfl, HTT.out⟩ hown6 hgrow6 (by rw [World.size_alloc] at hat6; exact hat6)
            clear hown6 hgrow6 hat6 hlt6 q5 HG5 HV5 HD5 qb
            go_wp2_with fail
            go_roundw
            case rel =>
              refine ⟨k - 1, l ++ [⟨z, 1, tt⟩], _, ?_, ?_, HG6.out, g, cap5, by rw [List.length_append]; rfl⟩
              · have e : ((k - 1 : Nat) : Int) = (k : Int) - 1 := by omega
                rw [e]
              · rw [List.length_append]; simp only [List.length_cons, List.length_nil]; omega
            case measure => simp [intOf]; omega
      · go_wp2_with fail
        refine (l9Atom_any _ w3).mono ?_
        rintro e w4 ⟨rfl, hb4⟩
        have htl3 := HTB.out.1
        have hd14 : Drawn cb ao len cap zs wr w4 := hd13.trans ⟨hd13.1.below hb4, Turn.of_below hb4⟩
        have q4 : ∀ o, w4.cell? ⟨tb, o, none⟩ = (#[.int .i64 va, .int .i64 vb, .string vc, .slice vd ve vf] : Array Value)[o]? := fun o => by rw [hb4.cell (p := ⟨tb, o, none⟩) htl3]; exact q3 o
        have f4 : ∀ o, w4.frozen? ⟨tb, o, none⟩ = false := fun o => by rw [hb4.frozen (p := ⟨tb, o, none⟩) htl3]; exact f3 o
        have htl4 : tb < w4.heap.size := Nat.lt_of_lt_of_le htl3 hb4.size
        have HD4 : Hid (Drawn cb ao len cap zs wr w4) := hd14
        have hd5 := hd14.set4 hcr HTB.out.2.2 (.int .i64 2) (.int .i64 0) (.string ⟨#[110, 111, 114, 111, 111, 109]⟩) (.slice none 0 0)
        have hin := World.cell?_setCells_in tb [.int .i64 2, .int .i64 0, .string ⟨#[110, 111, 114, 111, 111, 109]⟩, .slice none 0 0] 0 w4 (fun j hj => by
          have hj' : j < 4 := hj
          rw [Nat.zero_add, q4 j]
          match j, hj' with
          | 0, _ => rfl
          | 1, _ => rfl
          | 2, _ => rfl
          | 3, _ => rfl)
        have q5 : ∀ o, ((((w4.setCell ⟨tb, 0, none⟩ (.int .i64 2)).setCell ⟨tb, 1, none⟩ (.int .i64 0)).setCell ⟨tb, 2, none⟩ (.string ⟨#[110, 111, 114, 111, 111, 109]⟩)).setCell ⟨tb, 3, none⟩ (.slice none 0 0)).cell? ⟨tb, o, none⟩ = (#[.int .i64 2, .int .i64 0, .string ⟨#[110, 111, 114, 111, 111, 109]⟩, .slice none 0 0] : Array Value)[o]? := fun o => by
          rcases Nat.lt_or_ge o 4 with ho | ho
          · have h9 : ∀ j, j < 4 → ((((w4.setCell ⟨tb, 0, none⟩ (.int .i64 2)).setCell ⟨tb, 1, none⟩ (.int .i64 0)).setCell ⟨tb, 2, none⟩ (.string ⟨#[110, 111, 114, 111, 111, 109]⟩)).setCell ⟨tb, 3, none⟩ (.slice none 0 0)).cell? ⟨tb, j, none⟩ = ([.int .i64 2, .int .i64 0, .string ⟨#[110, 111, 114, 111, 111, 109]⟩, .slice none 0 0] : List Value)[j]? := fun j hj => by
              have := hin j hj
              rw [Nat.zero_add] at this
              rw [List.getElem?_eq_getElem (show j < ([.int .i64 2, .int .i64 0, .string ⟨#[110, 111, 114, 111, 111, 109]⟩, .slice none 0 0] : List Value).length from hj)]
              exact this
            rw [h9 o ho]; simp
          · rw [World.cell?_setCell_other (h := by simp <;> omega), World.cell?_setCell_other (h := by simp <;> omega), World.cell?_setCell_other (h := by simp <;> omega), World.cell?_setCell_other (h := by simp <;> omega), q4 o]
            rw [Array.getElem?_eq_none (by simpa using ho), Array.getElem?_eq_none (by simpa using ho)]
        have hz5 : ((((w4.setCell ⟨tb, 0, none⟩ (.int .i64 2)).setCell ⟨tb, 1, none⟩ (.int .i64 0)).setCell ⟨tb, 2, none⟩ (.string ⟨#[110, 111, 114, 111, 111, 109]⟩)).setCell ⟨tb, 3, none⟩ (.slice none 0 0)).heap.size = w4.heap.size := by rw [World.size_setCell, World.size_setCell, World.size_setCell, World.size_setCell]
        go_wp2_with fail
        generalize ((((w4.setCell ⟨tb, 0, none⟩ (.int .i64 2)).setCell ⟨tb, 1, none⟩ (.int .i64 0)).setCell ⟨tb, 2, none⟩ (.string ⟨#[110, 111, 114, 111, 111, 109]⟩)).setCell ⟨tb, 3, none⟩ (.slice none 0 0)) = wb at hd5 q5 hz5 ⊢
        · have hvb : RpV (fun p => wr.heap.size ≤ p) wb NR (.agg #[.int .i64 2, .int .i64 0, .string ⟨#[110, 111, 114, 111, 111, 109]⟩, .slice none 0 0]) := ⟨none, 0, rfl, by decide, Nat.le_refl _, Nat.zero_le _, by rw [RpL]; trivial⟩
          have htt : RtT 1 NR ∨ NR = NR := .inr rfl
          have hdb := hd5
          have qb := q5
          have htl : tb < wb.heap.size := by omega
          have htc := HTB.out.2.1
          clear hv hv3 ht hd2 hd3 hd13 hz2 hz3 q3 f3 hb4 htl3 hd14 q4 f4 htl4 HD4 hd5 hin q5 hz5 w2
          have HVB : Hid (RpV (fun p => wr.heap.size ≤ p) wb NR (.agg #[.int .i64 2, .int .i64 0, .string ⟨#[110, 111, 114, 111, 111, 109]⟩, .slice none 0 0])) := hvb
          have HTT : Hid (RtT 1 NR ∨ NR = NR) := htt
          have HGb : Hid (Gn cb ao len cap zs B w1 wb l (.slice (some ⟨ga, 0, none⟩) l.length uc) xs) := HG.out.turn hdb
          have HOB : Hid (∀ p, wr.heap.size ≤ p → B ≤ p ∧ (Value.slice (some ⟨ga, 0, none⟩) l.length uc).ownBlock ≠ some p) := fun p hp => ⟨by have := HG.out.wB; omega, fun e => by have := (HG.out.own.lt p e).2; omega⟩
          have HQB : Hid (∀ w5, Turn cb wb w5 → ∀ o, w5.cell? ⟨tb, o, none⟩ = (#[.int .i64 2, .int .i64 0, .string ⟨#[110, 111, 114, 111, 111, 109]⟩, .slice none 0 0] : Array Value)[o]?) := fun w5 ht o => by
            rw [World.cell?_of_block (w := wb) (ht.block tb htl htc)]; exact qb o
          have HNC : Hid (cb < wr.heap.size) := hcr
          clear hvb htt hdb htl htc hcr
          go_wp2_with fail
          go_region_law (first
            | (refine step_append_lies _ rfl (.tmp 21) (.tmp 27) 24 rfl B 31 i0 (.agg #[.int .i64 0, .int .i64 0, .int .i64 0, .int .i64 0, .string ⟨#[]⟩, .slice none 0 0]) 6 72 undSaidS hi hzz0 hzz1 hzz2 rfl (by decide) (.slice (some ⟨ga, 0, none⟩) l.length uc) l.length xs (by simp [Act.eval]) (HG5.out.own.alloc _) ⟨w5.heap.size, 0, none⟩ 1 1 [.int .i64 z, .int .i64 1, .int .i64 2, .int .i64 0, .string ⟨#[110, 111, 114, 111, 111, 109]⟩, .slice none 0 0] (by simp [Act.eval]) rfl sixNews (by intro u' hu'; simp at hu'; rcases hu' with rfl | rfl | rfl | rfl | rfl | rfl <;> rfl) (by decide) (by unfold maxLen; omega) (by omega) (by have := HG5.out.wB; simp; omega) _ rfl ?_; intro g cap5 w6 hown6 hgrow6 hat6 hlt6)
            | (go_simp; go_wp2_with (go_at_call 14; refine (below_any cb ao len cap zs _ ?_ 3 (by decide) (by decide)).mono ?_; exact HGb.out.drawn.1.drew; rintro e w5 ⟨y, rfl, hy0, hy1, hd5⟩; obtain ⟨z, hz, hz0, hz9⟩ : ∃ z : Int, IntKind.i64.wrap (1 + y) = z ∧ 1 ≤ z ∧ z ≤ 3 := ⟨1 + y, by rw [IntKind.wrap_i64]; omega, by omega, by omega⟩; have HD5 : Hid (Drawn cb ao len cap zs wb w5) := hd5.drew; have HG5 : Hid (Gn cb ao len cap zs B w1 w5 l (.slice (some ⟨ga, 0, none⟩) l.length uc) xs) := HGb.out.turn HD5.out; have q5 := HQB.out w5 HD5.out.2; clear hd5)))
          all_goals
            have HV5 := (Moves.turn (cb := cb) (fun p hp => by have := HNC.out; omega) HD5.out.2).repV HVB.out
            have HG6 : Hid (Gn cb ao len cap zs B w1 w6 (l ++ [⟨z, 1, NR⟩]) (.slice (some ⟨g, 0, none⟩) (l.length + 1) cap5) _) := HG5.out.more (x := ⟨z, 1, NR⟩) HV5 HOB.out ⟨hz0, hz9, rfl, .inr rfl⟩ hown6 hgrow6 (by rw [World.size_alloc] at hat6; exact hat6)
            clear hown6 hgrow6 hat6 hlt6 q5 HG5 HV5 HD5 qb
            go_wp2_with fail
            go_roundw
            case rel =>
              refine ⟨k - 1, l ++ [⟨z, 1, NR⟩], _, ?_, ?_, HG6.out, g, cap5, by rw [List.length_append]; rfl⟩
              · have e : ((k - 1 : Nat) : Int) = (k : Int) - 1 := by omega
                rw [e]
              · rw [List.length_append]; simp only [List.length_cons, List.length_nil]; omega
            case measure => simp [intOf]; omega
    · have hk0 : k = 0 := by omega
      go_wp2_with fail
      go_ret
      obtain ⟨a, c, e, h1, h2, h3⟩ := HG.out.row.rd HG.out.own rfl
      cases e
      refine ⟨l, ga, uc, rfl, h1, h2, by omega, h3, HG.out.ok, ?_⟩
      have hzz9 := HZ1.out
      exact Turn.below HB1.out (by omega) HG.out.drawn.2 (by omega)
end Go.Proofs.Ytnfncdoiabgdjaa.Nr
