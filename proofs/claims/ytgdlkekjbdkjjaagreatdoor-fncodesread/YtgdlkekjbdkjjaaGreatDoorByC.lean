/-
  A number put behind bytes: what both kinds of PutNum answer.
-/
import Derived.Test.YtgdlkekjbdkjjaaGreatDoorByB
import Derived.Maps.AppendAt
import Derived.Laws.OwnMore
namespace Go.Proofs.YtgdlkekjbdkjjaaGreatDoor.By
open Go.RowKit
set_option linter.unusedVariables false

def bcs (L : List UInt8) : List Value := L.map fun c => Value.int .u8 ((c.toNat : Nat) : Int)
/-- A row of bytes of the call's own. -/
def OwB (w : World) (base : Nat) (v : Value) (L : List UInt8) : Prop := w.ownsRow base 5 1 v L.length (bcs L)
theorem OwB.slice {w : World} {base : Nat} {v : Value} {L : List UInt8} (h : OwB w base v L) : ∃ a c, v = .slice a L.length c ∧ (v.ownBlock = none → a = none) ∧ ∀ k, v.ownBlock = some k → a = some ⟨k, 0, none⟩ := by
  rcases h.2 with ⟨rfl, hn⟩ | ⟨g, cap, cur, rfl, _⟩
  · exact ⟨none, 0, by rw [hn], fun _ => rfl, fun k hk => by simp [Value.ownBlock] at hk⟩
  · exact ⟨_, _, rfl, fun h => by simp [Value.ownBlock] at h, fun k hk => by simp [Value.ownBlock] at hk; rw [hk]⟩
theorem OwB.rd {w : World} {base : Nat} {v : Value} {L : List UInt8} (h : OwB w base v L) : ∃ a c, v = .slice a L.length c ∧ RdB w a L := by
  rcases h.2 with ⟨rfl, hn⟩ | ⟨g, cap, cur, rfl, hb, hg, hl, hm, hs, ht⟩
  · exact ⟨none, 0, by rw [hn], fun h0 => absurd hn h0⟩
  · refine ⟨_, _, rfl, fun _ => ⟨g, 0, rfl, fun j hj => ?_⟩⟩
    rw [Nat.zero_add]
    have e : (cur.toList.take (L.length * 1))[j]? = (bcs L)[j]? := by rw [ht]
    rw [List.getElem?_take_of_lt (by omega)] at e
    simp only [World.cell?, hg]
    rw [Array.getElem?_toList] at e
    rw [show ((bcs L)[j]? = some (.int .u8 ((L[j].toNat : Nat) : Int))) by simp [bcs, hj]] at e
    exact e
theorem OwB.at {w : World} {base g c : Nat} {L : List UInt8} (h : OwB w base (.slice (some ⟨g, 0, none⟩) L.length c) L) : BAt w g 0 L ∧ base ≤ g ∧ g < w.heap.size ∧ ∀ x, w.frozen? ⟨g, x, none⟩ = false := by
  have hlt := World.ownsRow.lt h g rfl
  refine ⟨fun j hj => ?_, hlt.1, hlt.2, fun x => ?_⟩
  · obtain ⟨a, c2, e, hr⟩ := h.rd
    injection e with e1 e2 e3
    subst e1
    obtain ⟨b, o, e4, hc⟩ := hr (by omega)
    injection e4 with e4
    injection e4 with e5 e6
    subst e5
    subst e6
    exact hc j hj
  · rcases h.2 with ⟨e, _⟩ | ⟨g2, cap, cur, e, hb, hg, _⟩
    · cases e
    · injection e with e1
      injection e1 with e1
      injection e1 with e1
      subst e1
      simp [World.frozen?, hg]
theorem oneB (k : IntKind) (x : Int) : ∀ u ∈ [Value.int k x], u.oneCell' = true := fun u hu => by simp at hu; subst hu; rfl
theorem oneBs (L : List UInt8) : ∀ u ∈ bcs L, u.oneCell' = true := fun u hu => by
  obtain ⟨c, _, rfl⟩ := List.mem_map.1 hu; rfl
theorem lenBs (L : List UInt8) : (bcs L).length = L.length * 1 := by simp [bcs]
theorem srcB {w : World} {b o : Nat} {L : List UInt8} (h : BAt w b o L) : ∀ j u, (bcs L)[j]? = some u → w.cell? ((⟨b, o, none⟩ : Addr).add j) = some u := by
  intro j u hj
  have hl : j < L.length := by
    have := (List.getElem?_eq_some_iff.1 hj).1
    rw [lenBs] at this; omega
  rw [Addr.add_lit, h j hl]
  simp [bcs, hl] at hj
  rw [hj]
theorem bcs_cat (L M : List UInt8) : bcs (L ++ M) = bcs L ++ bcs M := List.map_append
theorem owB_more {w : World} {base : Nat} {v : Value} {L M : List UInt8} {n : Nat} (h : w.ownsRow base 5 1 v n (bcs L ++ bcs M)) (hn : n = L.length + M.length) : OwB w base v (L ++ M) := by
  subst hn
  unfold OwB
  rw [bcs_cat, List.length_append]; exact h
theorem owB_byte {w : World} {base : Nat} {v : Value} {L : List UInt8} {c : UInt8} {x : Int} (h : w.ownsRow base 5 1 v (L.length + 1) (bcs L ++ [.int .u8 x])) (hx : x = ((c.toNat : Nat) : Int)) : OwB w base v (L ++ [c]) := by
  subst hx
  exact owB_more (M := [c]) h rfl
theorem OwB.below {w w' : World} {base : Nat} {v : Value} {L : List UInt8} (h : OwB w base v L) (hb : Below w.heap.size w w') : OwB w' base v L :=
  World.ownsRow.kept (row := none) h ⟨hb.os, hb.tape, hb.output, hb.size, fun k hk _ => hb.block k hk⟩ (by cases hv : v.ownBlock with | none => exact .inl rfl | some k => exact .inr (by simp))
theorem OwB.some {w : World} {base : Nat} {v : Value} {L : List UInt8} (h : OwB w base v L) (hn : v ≠ .slice none 0 0) : ∃ g c, v = .slice (some ⟨g, 0, none⟩) L.length c := by
  rcases h.2 with ⟨e, _⟩ | ⟨g, cap, cur, rfl, _⟩
  · exact absurd e hn
  · exact ⟨g, cap, rfl⟩

theorem and127 (n : Nat) : bits .and .i64 (n : Int) 127 = (n : Int) % 128 := by
  have h127 : (BitVec.ofInt 64 127).toNat = 2 ^ 7 - 1 := by decide
  have key : (BitVec.ofInt 64 (n : Int) &&& BitVec.ofInt 64 127).toNat = ((n : Int) % ((2 ^ 64 : Nat) : Int)).toNat % 2 ^ 7 := by
    rw [BitVec.toNat_and, BitVec.toNat_ofInt, h127, Nat.and_two_pow_sub_one_eq_mod]
  show IntKind.i64.wrap ((BitVec.ofInt 64 (n : Int) &&& BitVec.ofInt 64 127).toNat : Nat) = (n : Int) % 128
  rw [key, IntKind.wrap_i64]
  omega
theorem or128 (n : Nat) : bits .or .i64 ((n : Int) % 128) 128 = (n : Int) % 128 + 128 := by
  have key : ∀ k : Fin 128, bits .or .i64 ((k.val : Nat) : Int) 128 = ((k.val + 128 : Nat) : Int) := by decide +kernel
  have h := key ⟨n % 128, Nat.mod_lt _ (by decide)⟩
  simp only at h
  have e : ((n % 128 : Nat) : Int) = (n : Int) % 128 := by omega
  rw [e] at h
  rw [h]
  omega
theorem byte_more (k : Nat) : (k : Int) % 128 + 128 = (((UInt8.ofNat (k % 128 + 128)).toNat : Nat) : Int) := by rw [toNat_of (by omega)]; omega
theorem byte_last (k : Nat) (h : k < 128) : (k : Int) = (((UInt8.ofNat k).toNat : Nat) : Int) := by rw [toNat_of (by omega)]
theorem grp_step {K N : List UInt8} {k : Nat} (h : K ++ grp k = N) (hk : ¬ k < 128) : (K ++ [UInt8.ofNat (k % 128 + 128)]) ++ grp (k / 128) = N := by
  rw [← h, grp_more hk, List.append_assoc]; rfl
theorem grp_end {K N : List UInt8} {k : Nat} (h : K ++ grp k = N) (hk : k < 128) : K ++ [UInt8.ofNat k] = N := by
  rw [← h, grp_last hk]
theorem grp_room {K N : List UInt8} {k : Nat} (h : K ++ grp k = N) (hk : k ≤ 2000000) : K.length + 1 ≤ N.length := by
  have := grp_len k (by omega)
  rw [← h, List.length_append]; omega

set_option maxHeartbeats 1000000 in
set_option maxRecDepth 100000 in
theorem specPut_any (b o cap : Nat) (L : List UInt8) (n : Int) (w : World) (hr : BAt w b o L) (hN : L.length ≤ 1048590) :
    Calls Tryz.prog 50 #[.slice (some ⟨b, o, none⟩) L.length cap, .int .i64 n] w fun e w' => ∃ g c, e = .returned (.slice (some ⟨g, 0, none⟩) (L ++ numB n).length c) ∧ OwB w' w.heap.size (.slice (some ⟨g, 0, none⟩) (L ++ numB n).length c) (L ++ numB n) ∧ Below w.heap.size w w' := by
  obtain ⟨i0, hi, hz0, hz1, hz2⟩ := parts8 infoU8
  have HI : Hid (Tryz.prog.info? 5 = some i0 ∧ i0.zero = some (.int .u8 0) ∧ i0.size = 1 ∧ i0.bytes = 1) := ⟨hi, hz0, hz1, hz2⟩
  clear hi hz0 hz1 hz2
  have HB1 : Hid (Below w.heap.size w (w.alloc (.cells #[] 5))) := (Below.refl _ _).alloc (Nat.le_refl _) _
  have HO : Hid ((w.alloc (.cells #[] 5)).ownsRow w.heap.size 5 1 (.slice (some ⟨w.heap.size, 0, none⟩) 0 0) 0 []) := World.ownsRow_made w #[] 0 (Nat.le_refl _) (Nat.zero_le _) rfl
  have HC : Hid (∀ j u, (bcs L)[j]? = some u → (w.alloc (.cells #[] 5)).cell? ((⟨b, o, none⟩ : Addr).add j) = some u) := srcB (hr.below HB1.out)
  have C3 : Hid (0 + L.length ≤ maxLen) := by show _ ≤ _; unfold maxLen; omega
  have C4 : Hid ((0 + L.length) * 1 ≤ 140737488355328) := by show _ ≤ _; omega
  clear hr
  obtain ⟨M, hM⟩ : ∃ M, foldN n = M := ⟨_, rfl⟩
  have hMl : M ≤ 2000000 := by rw [← hM]; exact fold_le n
  obtain ⟨N, hNN⟩ : ∃ N, L ++ numB n = N := ⟨_, rfl⟩
  have HM : Hid (L ++ grp M = N) := by show _ = _; rw [← hNN, numB, hM]
  have hNl : N.length ≤ 1048594 := by have := num_len n; rw [← hNN, List.length_append]; omega
  rw [hNN]
  have hcase : (1000000 < n ∧ M = 2000000) ∨ (n < -1000000 ∧ M = 1999999) ∨ (-1000000 ≤ n ∧ n < 0 ∧ (M : Int) = -2 * n - 1) ∨ (0 ≤ n ∧ n ≤ 1000000 ∧ (M : Int) = 2 * n) := by
    rw [← hM]
    unfold foldN clampN
    split <;> split <;> (try split) <;> (try split) <;> omega
  clear hM hNN
  have ha := and127
  have hob := or128
  rcases hcase with ⟨h1, h2⟩ | ⟨h1, h2⟩ | ⟨h0, h1, h2⟩ | ⟨h0, h1, h2⟩
  all_goals
    have H2 : Hid (_ = _) := h2
    clear h2
    go_enter Tryz.func50, Tryz.ntmps50
    go_wp2_with (at_builtin; refine wpList_append_own_at _ rfl _ _ 22 rfl w.heap.size 5 i0 (.int .u8 0) 1 1 undU8 HI.out.1 HI.out.2.1 HI.out.2.2.1 HI.out.2.2.2 rfl Nat.zero_lt_one _ 0 [] rfl HO.out ⟨b, o, none⟩ L.length cap (bcs L) rfl (lenBs L) HC.out (oneBs L) C3.out C4.out HB1.out.size ?_; intro v2 w2 hown2 hgr2 hnn2 hat2)
    have how : OwB w2 w.heap.size v2 L := by
      rw [Nat.zero_add, List.nil_append] at hown2; exact hown2
    obtain ⟨g2, c2, rfl⟩ := how.some (fun e => by have := (hnn2.1 e).1; cases this)
    have HW : Hid (OwB w2 w.heap.size (.slice (some ⟨g2, 0, none⟩) L.length c2) L) := how
    have HB2 : Hid (Below w.heap.size w w2) := HB1.out.grown hgr2 HB1.out.size (fun k hk => by have e : some w.heap.size = some k := hk; injection e with e; omega)
    clear how hown2 hgr2 hnn2 hat2 HO HC C3 C4
    go_loopw [5, 6] (fun v m wr => ∃ (k : Nat) (K : List UInt8) (g c : Nat), m = .int .i64 k ∧ k ≤ 2000000 ∧ K ++ grp k = N ∧ v = .slice (some ⟨g, 0, none⟩) K.length c ∧ OwB wr w.heap.size (.slice (some ⟨g, 0, none⟩) K.length c) K ∧ Below w.heap.size w wr) (fun _ m _ => (intOf m).toNat)
    case atStart => exact ⟨M, L, g2, c2, by have := H2.out; congr 1; omega, hMl, HM.out, rfl, HW.out, HB2.out⟩
    case round =>
      obtain ⟨k, K, g, c, rfl, hk, hK, rfl, how, hb⟩ := hrel
      have hroom := grp_room hK hk
      have HK : Hid (K ++ grp k = N) := hK
      have HOW : Hid (OwB wr w.heap.size (.slice (some ⟨g, 0, none⟩) K.length c) K) := how
      have HB : Hid (Below w.heap.size w wr) := hb
      have D3 : Hid (K.length + 1 ≤ maxLen) := by show _ ≤ _; unfold maxLen; omega
      have D4 : Hid ((K.length + 1) * 1 ≤ 140737488355328) := by show _ ≤ _; omega
      have hsz := hb.size
      have D5 : Hid (∀ x, w.heap.size ≤ (wr.alloc (.cells #[x] 5)).heap.size) := fun x => by rw [World.size_alloc]; omega
      clear hK how hb hroom
      by_cases h127 : 127 < k
      · go_wp2_with (at_builtin; refine wpList_append_own_at _ rfl _ _ 22 rfl w.heap.size 5 i0 (.int .u8 0) 1 1 undU8 HI.out.1 HI.out.2.1 HI.out.2.2.1 HI.out.2.2.2 rfl Nat.zero_lt_one _ K.length _ rfl (World.ownsRow.alloc HOW.out _) ⟨_, 0, none⟩ 1 1 [.int .u8 ((k : Int) % 128 + 128)] rfl rfl (cell_one_new _ _ _) (oneB _ _) D3.out D4.out (D5.out _) ?_; intro v3 w3 hown3 hgr3 hnn3 hat3)
        have how3 : OwB w3 w.heap.size v3 (K ++ [UInt8.ofNat (k % 128 + 128)]) := owB_byte hown3 (byte_more k)
        obtain ⟨g3, c3, rfl⟩ := how3.some (fun e => by have := (hnn3.1 e).1; cases this)
        have HB3 : Hid (Below w.heap.size w w3) := (HB.out.alloc HB.out.size _).grown hgr3 (D5.out _) (fun k hk => (World.ownsRow.lt HOW.out k hk).1)
        have HO3 : Hid (OwB w3 w.heap.size (.slice (some ⟨g3, 0, none⟩) (K ++ [UInt8.ofNat (k % 128 + 128)]).length c3) (K ++ [UInt8.ofNat (k % 128 + 128)])) := how3
        have HKN : Hid ((K ++ [UInt8.ofNat (k % 128 + 128)]) ++ grp (k / 128) = N) := grp_step HK.out (by omega)
        clear hown3 hgr3 hnn3 hat3 how3
        go_roundw
        case rel => exact ⟨k / 128, _, g3, c3, by first | rfl | (congr 1; omega) | go_num, by omega, HKN.out, rfl, HO3.out, HB3.out⟩
        case measure => simp [intOf]; omega
      · go_wp2_with (at_builtin; refine wpList_append_own_at _ rfl _ _ 22 rfl w.heap.size 5 i0 (.int .u8 0) 1 1 undU8 HI.out.1 HI.out.2.1 HI.out.2.2.1 HI.out.2.2.2 rfl Nat.zero_lt_one _ K.length _ rfl (World.ownsRow.alloc HOW.out _) ⟨_, 0, none⟩ 1 1 [.int .u8 (k : Int)] rfl rfl (cell_one_new _ _ _) (oneB _ _) D3.out D4.out (D5.out _) ?_; intro v3 w3 hown3 hgr3 hnn3 hat3)
        have how3 : OwB w3 w.heap.size v3 N := by
          have := owB_byte hown3 (byte_last k (by omega))
          rw [grp_end HK.out (by omega)] at this
          exact this
        obtain ⟨g3, c3, rfl⟩ := how3.some (fun e => by have := (hnn3.1 e).1; cases this)
        have HB3 : Hid (Below w.heap.size w w3) := (HB.out.alloc HB.out.size _).grown hgr3 (D5.out _) (fun k hk => (World.ownsRow.lt HOW.out k hk).1)
        have HO3 : Hid (OwB w3 w.heap.size (.slice (some ⟨g3, 0, none⟩) N.length c3) N) := how3
        clear hown3 hgr3 hnn3 hat3 how3
        go_ret
        exact ⟨g3, c3, rfl, HO3.out, HB3.out⟩
end Go.Proofs.YtgdlkekjbdkjjaaGreatDoor.By
