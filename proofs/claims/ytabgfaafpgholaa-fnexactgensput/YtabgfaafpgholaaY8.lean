/-
  What is put is read back, as reckoning.
-/
import Derived.Test.YtabgfaafpgholaaW10
import Derived.Test.YtabgfaafpgholaaW7
namespace Go.Proofs.Ytabgfaafpgholaa
open Go.RowKit
set_option linter.unusedVariables false

theorem mkw_back {t v : Int} (h1 : 0 ≤ t ∧ t ≤ 6) (h2 : 0 ≤ v ∧ v ≤ 4000000) : tagW (mkw t v) = t ∧ valW (mkw t v) = v ∧ isW (mkw t v) = true := by
  have e : mkw t v = v * 8 + t := by unfold mkw inB; simp [h1, h2]
  have h0 : 0 ≤ v * 8 + t := by omega
  rw [e]
  have a1 : tagW (v * 8 + t) = t := by rw [tagW_of h0]; omega
  have a2 : valW (v * 8 + t) = v := by rw [valW_of h0]; omega
  exact ⟨a1, a2, isW_of h0 (by rw [a1]; omega) (by rw [a2]; omega)⟩
theorem empty_of {s : ByteArray} (h : s.toList = []) : s = ByteArray.empty := by
  rw [ByteArray.toList_eq] at h
  cases s with
  | mk d =>
    have : d = #[] := by
      cases d with
      | mk l => simp only at h; subst h; rfl
    subst this
    rfl
theorem addK_at (A : List ByteArray) (s : ByteArray) (h : ¬ addK A s < 0) : addK A s < (addL A s).length ∧ (addL A s).getD (addK A s).toNat ByteArray.empty = s := by
  unfold addK addL at *
  cases ha : adds A s with
  | true => simp; omega
  | false =>
    rw [ha] at h
    simp only [Bool.false_eq_true, if_false] at h ⊢
    rcases idx_cases A s with ⟨h1, _⟩ | ⟨m, hm, h1, h2, _⟩
    · omega
    · rw [h1]
      refine ⟨by omega, ?_⟩
      rw [Int.toNat_natCast]
      simp [hm, h2]
theorem txtB_back (s : ByteArray) : txt (bytesI s) = some s := by
  have hall : (bytesI s).all isByte = true := by
    rw [List.all_eq_true]
    intro x hx
    obtain ⟨b, _, rfl⟩ := List.mem_map.1 hx
    have := b.toNat_lt
    simp [isByte]
    omega
  unfold txt
  rw [if_pos hall]
  congr 1
  unfold txtB bytesI
  rw [List.map_map]
  cases s with
  | mk d =>
    congr 1
    have : (List.map ((fun x : Int => UInt8.ofNat x.toNat) ∘ fun b : UInt8 => (b.toNat : Int)) d.toList) = d.toList := by
      have e : ((fun x : Int => UInt8.ofNat x.toNat) ∘ fun b : UInt8 => (b.toNat : Int)) = id := by
        funext b
        simp
      rw [e, List.map_id]
    rw [this]
/-- The words ws are read as the terms l, one after the other. -/
def Chain (g : Rd) : List Int → List Tm → Nat → Nat → Prop
  | [], [], left, x => x = left
  | w :: ws, t :: l, left, x => ∃ y, g w left = some (t, y) ∧ Chain g ws l y x
  | _, _, _, _ => False
theorem chain_TR {H : Hp} {g : Rd} : ∀ (ws : List Int) (l : List Tm) (p left x : Nat), Chain g ws l left x → (∀ j (h : j < ws.length), H.f (p + j) = ws[j]) → TR H g l p left x
  | [], [], p, left, x, h, _ => by rw [Chain] at h; rw [TR]; exact h
  | w :: ws, t :: l, p, left, x, h, hf => by
    rw [Chain] at h
    obtain ⟨y, h1, h2⟩ := h
    rw [TR]
    refine ⟨y, by rw [show H.f p = w from hf 0 (by simp)]; exact h1, chain_TR ws l (p + 1) y x h2 (fun j hj => ?_)⟩
    have := hf (j + 1) (by simpa using hj)
    rw [Nat.add_assoc, Nat.add_comm 1 j]
    simpa using this
  | [], t :: l, p, left, x, h, _ => by rw [Chain] at h; exact h.elim; all_goals simp
  | w :: ws, [], p, left, x, h, _ => by rw [Chain] at h; exact h.elim; all_goals simp
theorem chain_LR {H : Hp} {g : Rd} (hN : H.N ≤ 1048576) : ∀ (ws : List Int) (l : List Tm) (p left x : Nat), ws ≠ [] → Chain g ws l left x → (∀ j (h : j < (consL ws p).length), H.f (p + j) = (consL ws p)[j]) → p + 2 * ws.length ≤ H.N → LR H g l (mkw 5 p) left x
  | [], _, _, _, _, h, _, _, _ => absurd rfl h
  | [w], [t], p, left, x, _, h, hf, hp => by
    rw [Chain] at h
    obtain ⟨y, h1, h2⟩ := h
    rw [Chain] at h2
    have hp' : p + 2 ≤ H.N := by simpa using hp
    obtain ⟨b1, b2, b3⟩ := mkw_back (t := 5) (v := (p : Int)) (by omega) (by omega)
    rw [LR]
    have f0 : H.f p = w := hf 0 (by simp [consL])
    have f1 : H.f (p + 1) = 3 := hf 1 (by simp [consL])
    refine ⟨fun e => by rw [e] at b1; simp [tagW] at b1, ⟨b1, by rw [b2]; omega⟩, y, by rw [b2, Int.toNat_natCast, f0]; exact h1, ?_⟩
    rw [b2, Int.toNat_natCast, f1, LR]
    exact ⟨rfl, h2⟩
  | w :: v :: ws, t :: l, p, left, x, _, h, hf, hp => by
    rw [Chain] at h
    obtain ⟨y, h1, h2⟩ := h
    have hp' : p + 2 * (ws.length + 2) ≤ H.N := by simpa using hp
    obtain ⟨b1, b2, b3⟩ := mkw_back (t := 5) (v := (p : Int)) (by omega) (by omega)
    rw [LR]
    have f0 : H.f p = w := hf 0 (by rw [consL_len]; simp)
    have f1 : H.f (p + 1) = mkw 5 ((p : Int) + 2) := (hf 1 (by rw [consL_len]; simp only [List.length_cons]; omega)).trans (by simp only [consL, List.getElem_cons_succ, List.getElem_cons_zero])
    refine ⟨fun e => by rw [e] at b1; simp [tagW] at b1, ⟨b1, by rw [b2]; omega⟩, y, by rw [b2, Int.toNat_natCast, f0]; exact h1, ?_⟩
    rw [b2, Int.toNat_natCast, f1]
    have e : ((p : Int) + 2) = ((p + 2 : Nat) : Int) := by omega
    rw [e]
    refine chain_LR hN (v :: ws) l (p + 2) y x (by simp) h2 (fun j hj => ?_) (by simp; omega)
    have := hf (j + 2) (by rw [consL_len] at hj ⊢; simp at hj ⊢; omega)
    rw [Nat.add_assoc, Nat.add_comm 2 j, this]
    simp [consL]
  | [w], [], p, left, x, _, h, _, _ => by rw [Chain] at h; exact h.elim; all_goals simp
  | [w], t :: u :: l, p, left, x, _, h, _, _ => by
    rw [Chain] at h
    obtain ⟨y, _, h2⟩ := h
    rw [Chain] at h2; exact h2.elim; all_goals simp
  | w :: v :: ws, [], p, left, x, _, h, _, _ => by rw [Chain] at h; exact h.elim; all_goals simp
/-- The words that are new stand behind the place a. -/
def Lies (H : Hp) (a : Nat) (ns : List Int) : Prop := ∀ j (h : j < ns.length), H.f (a + j) = ns[j]
theorem Lies.left {H : Hp} {a : Nat} {xs ys : List Int} (h : Lies H a (xs ++ ys)) : Lies H a xs := fun j hj => by
  rw [h j (by simp; omega), List.getElem_append_left hj]
theorem Lies.right {H : Hp} {a : Nat} {xs ys : List Int} (h : Lies H a (xs ++ ys)) : Lies H (a + xs.length) ys := fun j hj => by
  rw [Nat.add_assoc, h (xs.length + j) (by simp; omega), List.getElem_append_right (by omega)]
  congr 1
  omega
theorem Lies.tail {H : Hp} {a : Nat} {x : Int} {ys : List Int} (h : Lies H a (x :: ys)) : H.f a = x ∧ Lies H (a + 1) ys := by
  refine ⟨h 0 (by simp), fun j hj => ?_⟩
  have := h (j + 1) (by simpa using hj)
  rw [Nat.add_assoc, Nat.add_comm 1 j]
  simpa using this
theorem lies_words {H : Hp} {p : Nat} {ns : List Int} (h : Lies H p ns) : wordsAt H p ns.length = ns := by
  apply List.ext_getElem (by simp [wordsAt])
  intro j h1 h2
  rw [wordsAt_get]
  exact h j h2
mutual
theorem back_T {H : Hp} (ho : H.ok) : ∀ (t : Tm) (a : Nat) (A : List ByteArray) (ns : List Int) (A' : List ByteArray) (w : Int) (d left x : Nat), AllK t → look t d left = some x → ptT t a A = some (ns, A', w) → Lies H a ns → a + ns.length ≤ H.N → (∃ C, H.A = A' ++ C) → rT true H d w left = some (t, x)
  | .mk k n s l, a, A, ns, A', w, d, left, x, hK, hl, hp, hf, hN, hC => by
    have hn := ho.n
    have ha := ho.a
    rw [look] at hl
    split at hl
    · cases hl
    rename_i hcond
    obtain ⟨d', rfl⟩ : ∃ d', d = d' + 1 := ⟨d - 1, by omega⟩
    obtain ⟨m, rfl⟩ : ∃ m, left = m + 1 := ⟨left - 1, by omega⟩
    simp only [Nat.add_sub_cancel] at hl
    have hsh : shapeB k n s l.length = true := by
      cases h : shapeB k n s l.length with
      | true => rfl
      | false => exact absurd (Or.inr (Or.inr h)) hcond
    have key : isW w = true → raw true H (rT true H d') w m = some (.mk k n s l, x) → rT true H (d' + 1) w (m + 1) = some (.mk k n s l, x) := fun h1 h2 => by
      rw [rT_on h1]
      exact held_true.2 ⟨h2, hsh⟩
    rw [AllK] at hK
    rw [ptT] at hp
    unfold shapeB at hsh
    by_cases k1 : k = 1
    · subst k1
      rw [if_pos rfl] at hp hsh
      simp only [Option.some.injEq, Prod.mk.injEq] at hp
      obtain ⟨rfl, rfl, rfl⟩ := hp
      simp only [Bool.and_eq_true, decide_eq_true_eq, beq_iff_eq] at hsh
      obtain ⟨⟨h1, h2⟩, h3⟩ := hsh
      have h1' := inB_yes h1
      have hl0 : l = [] := List.eq_nil_of_length_eq_zero (by omega)
      subst hl0
      rw [lookL] at hl
      cases hl
      obtain ⟨b1, b2, b3⟩ := mkw_back (t := 0) (v := n + 1000000) (by omega) (by omega)
      refine key b3 ?_
      unfold raw
      rw [if_pos b1, if_neg (by simp), b2, show n + 1000000 - 1000000 = n by omega, empty_of h2]
    rw [if_neg k1] at hp hsh
    by_cases k3 : k = 3
    · subst k3
      rw [if_pos rfl] at hp
      rw [if_neg (by omega), if_pos rfl] at hsh
      simp only [Option.some.injEq, Prod.mk.injEq] at hp
      obtain ⟨rfl, rfl, rfl⟩ := hp
      simp only [Bool.and_eq_true, decide_eq_true_eq, beq_iff_eq] at hsh
      obtain ⟨⟨h1, h2⟩, h3⟩ := hsh
      have h1' := inB_yes h1
      have hl0 : l = [] := List.eq_nil_of_length_eq_zero (by omega)
      subst hl0
      rw [lookL] at hl
      cases hl
      obtain ⟨b1, b2, b3⟩ := mkw_back (t := 2) (v := n) (by omega) (by omega)
      refine key b3 ?_
      unfold raw
      rw [if_neg (by omega), if_neg (by omega), if_pos b1, b2, empty_of h2]
    rw [if_neg k3] at hp
    by_cases k2 : k = 2
    · subst k2
      rw [if_pos rfl] at hp hsh
      split at hp
      · cases hp
      rename_i hk
      simp only [Option.some.injEq, Prod.mk.injEq] at hp
      obtain ⟨rfl, rfl, rfl⟩ := hp
      simp only [Bool.and_eq_true, beq_iff_eq] at hsh
      obtain ⟨⟨h1, h2⟩, h3⟩ := hsh
      have hl0 : l = [] := List.eq_nil_of_length_eq_zero (by omega)
      subst hl0
      rw [lookL] at hl
      cases hl
      obtain ⟨C, hC⟩ := hC
      obtain ⟨c1, c2⟩ := addK_at A s hk
      have hlen : (addL A s).length ≤ H.A.length := by rw [hC]; simp
      obtain ⟨b1, b2, b3⟩ := mkw_back (t := 1) (v := addK A s) (by omega) (by omega)
      refine key b3 ?_
      unfold raw
      rw [if_neg (by omega), if_pos b1]
      unfold rAtom
      rw [b2, if_pos (by omega), hC]
      have e : (addL A s ++ C).getD (addK A s).toNat ByteArray.empty = s := by
        rw [List.getD_eq_getElem?_getD, List.getElem?_append_left (by omega), ← List.getD_eq_getElem?_getD]
        exact c2
      rw [e, h2]
    rw [if_neg k2] at hp hsh
    by_cases k6 : k = 6
    · subst k6
      rw [if_pos rfl] at hp
      rw [if_neg (by omega), if_neg (by omega), if_neg (by omega), if_pos rfl] at hsh
      simp only [Option.some.injEq, Prod.mk.injEq] at hp
      obtain ⟨rfl, rfl, rfl⟩ := hp
      simp only [Bool.and_eq_true, decide_eq_true_eq, beq_iff_eq] at hsh
      obtain ⟨⟨h1, h2⟩, h3⟩ := hsh
      have hl0 : l = [] := List.eq_nil_of_length_eq_zero (by omega)
      subst hl0
      rw [lookL] at hl
      cases hl
      rw [List.length_cons, bytesI_len] at hN
      obtain ⟨b1, b2, b3⟩ := mkw_back (t := 6) (v := (a : Int)) (by omega) (by omega)
      obtain ⟨f0, f1⟩ := hf.tail
      refine key b3 ?_
      unfold raw
      rw [if_neg (by omega), if_neg (by omega), if_neg (by omega), if_neg (by omega), if_pos b1, b2]
      have hc : cnt H (a : Int) 40 = some s.size := by
        unfold cnt
        rw [Int.toNat_natCast, f0, if_pos ⟨by omega, by omega, by omega, by omega⟩]
        simp
      unfold rBin
      rw [hc]
      have hw : wordsAt H (a + 1) s.size = bytesI s := by
        have := lies_words f1
        rw [bytesI_len] at this
        exact this
      show bin x (txt (wordsAt H ((a : Int).toNat + 1) s.size)) = _
      rw [Int.toNat_natCast, hw, txtB_back, h1]
      rfl
    rw [if_neg k6] at hp
    by_cases k4 : k = 4
    · subst k4
      rw [if_pos rfl] at hp
      rw [if_neg (by omega), if_pos rfl] at hsh
      split at hp
      · cases hp
      rename_i ws ns' A1 hp1
      simp only [Option.some.injEq, Prod.mk.injEq] at hp
      obtain ⟨rfl, rfl, rfl⟩ := hp
      simp only [Bool.and_eq_true, decide_eq_true_eq, beq_iff_eq] at hsh
      obtain ⟨⟨h1, h2⟩, h3⟩ := hsh
      obtain ⟨e1, e2, _⟩ := ptL_len l _ A ws ns' A1 hK.2 hp1
      rw [List.length_cons, List.length_append] at hN
      obtain ⟨f0, f1⟩ := hf.tail
      have f2 := f1.right
      rw [e1] at f2
      have hch := back_L ho l _ A ws ns' A1 d' m x hK.2 hl hp1 f2 (by omega) hC
      obtain ⟨b1, b2, b3⟩ := mkw_back (t := 4) (v := (a : Int)) (by omega) (by omega)
      refine key b3 ?_
      unfold raw
      rw [if_neg (by omega), if_neg (by omega), if_neg (by omega), if_pos b1, b2]
      have hc : cnt H (a : Int) 8 = some l.length := by
        unfold cnt
        rw [Int.toNat_natCast, f0, if_pos ⟨by omega, by omega, by omega, by omega⟩]
        simp
      unfold rCnt
      rw [hc]
      show tup 4 (rTs H (rT true H d') l.length ((a : Int).toNat + 1) m) = _
      rw [Int.toNat_natCast, (rTs_iff H _ _ _ _ l x).2 ⟨rfl, chain_TR ws l (a + 1) m x hch f1.left⟩, h1, empty_of h2]
      rfl
    rw [if_neg k4] at hp
    have k5 : k = 5 := by rcases hK.1 with ⟨h, _⟩ | h | h <;> omega
    subst k5
    rw [if_neg (by omega), if_neg (by omega), if_pos rfl] at hsh
    simp only [Bool.and_eq_true, decide_eq_true_eq, beq_iff_eq] at hsh
    obtain ⟨⟨h1, h2⟩, h3⟩ := hsh
    split at hp
    · rename_i hl0
      simp only [Option.some.injEq, Prod.mk.injEq] at hp
      obtain ⟨rfl, rfl, rfl⟩ := hp
      have hl0' : l = [] := List.eq_nil_of_length_eq_zero hl0
      subst hl0'
      rw [lookL] at hl
      cases hl
      refine key (by decide) ?_
      have t3 : tagW 3 = 3 := by decide
      unfold raw
      rw [if_neg (by omega), if_neg (by omega), if_neg (by omega), if_neg (by omega), if_neg (by omega), if_neg (by omega), (rL_iff H _ _ _ _ [] x).2 ⟨Nat.zero_le _, by rw [LR]; exact ⟨rfl, rfl⟩⟩, h1, empty_of h2]
      rfl
    · rename_i hl0
      split at hp
      · cases hp
      rename_i ws ns' A1 hp1
      simp only [Option.some.injEq, Prod.mk.injEq] at hp
      obtain ⟨rfl, rfl, rfl⟩ := hp
      obtain ⟨e1, e2, _⟩ := ptL_len l _ A ws ns' A1 hK.2 hp1
      rw [List.length_append, consL_len, e1] at hN
      have f2 := hf.right
      rw [consL_len, e1] at f2
      have hch := back_L ho l _ A ws ns' A1 d' m x hK.2 hl hp1 f2 (by omega) hC
      obtain ⟨b1, b2, b3⟩ := mkw_back (t := 5) (v := (a : Int)) (by omega) (by omega)
      refine key b3 ?_
      have hLR : LR H (rT true H d') l (mkw 5 a) m x := chain_LR hn ws l a m x (fun e => by rw [e] at e1; simp at e1; omega) hch hf.left (by omega)
      have hll := LR_len (rT_lt true H d') l _ m x hLR
      unfold raw
      rw [if_neg (by omega), if_neg (by omega), if_neg (by omega), if_neg (by omega), if_neg (by omega), if_neg (by omega), if_pos rfl, (rL_iff H _ _ _ _ l x).2 ⟨by omega, hLR⟩, h1, empty_of h2]
      rfl
theorem back_L {H : Hp} (ho : H.ok) : ∀ (l : List Tm) (a : Nat) (A : List ByteArray) (ws ns : List Int) (A' : List ByteArray) (d left x : Nat), AllKL l → lookL l d left = some x → ptL l a A = some (ws, ns, A') → Lies H a ns → a + ns.length ≤ H.N → (∃ C, H.A = A' ++ C) → Chain (rT true H d) ws l left x
  | [], a, A, ws, ns, A', d, left, x, _, hl, hp, _, _, _ => by
    rw [lookL] at hl
    rw [ptL] at hp
    simp only [Option.some.injEq, Prod.mk.injEq] at hp hl
    obtain ⟨rfl, rfl, rfl⟩ := hp
    rw [Chain]; exact hl.symm
  | t :: r, a, A, ws, ns, A', d, left, x, hK, hl, hp, hf, hN, hC => by
    rw [AllKL] at hK
    rw [lookL] at hl
    rw [ptL] at hp
    split at hl
    · cases hl
    rename_i y hy
    split at hp
    · cases hp
    rename_i ns1 A1 w1 hp1
    split at hp
    · cases hp
    rename_i ws2 ns2 A2 hp2
    simp only [Option.some.injEq, Prod.mk.injEq] at hp
    obtain ⟨rfl, rfl, rfl⟩ := hp
    rw [List.length_append] at hN
    obtain ⟨_, _, B, rfl⟩ := ptL_len r _ _ ws2 ns2 A2 hK.2 hp2
    obtain ⟨C, hC⟩ := hC
    rw [Chain]
    exact ⟨y, back_T ho t a A ns1 A1 w1 d left y hK.1 hy hp1 hf.left (by omega) ⟨B ++ C, by rw [hC]; simp⟩, back_L ho r _ A1 ws2 ns2 _ d y x hK.2 hl hp2 hf.right (by omega) ⟨C, hC⟩⟩
end
end Go.Proofs.Ytabgfaafpgholaa
