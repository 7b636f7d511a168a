/-
  A number put behind bytes: what the program's PutNum answers.
-/
import Derived.Test.YtgdlkekjbdkjjaaGreatDoorByC
import Derived.WalkLawsBesides
namespace Go.Proofs.YtgdlkekjbdkjjaaGreatDoor.By
open Go.RowKit
set_option linter.unusedVariables false

theorem fold_cases (n : Int) : (1000000 < n ∧ foldN n = 2000000) ∨ (n < -1000000 ∧ foldN n = 1999999) ∨ (-1000000 ≤ n ∧ n < 0 ∧ (foldN n : Int) = -2 * n - 1) ∨ (0 ≤ n ∧ n ≤ 1000000 ∧ (foldN n : Int) = 2 * n) := by
  unfold foldN clampN
  split <;> split <;> (try split) <;> (try split) <;> omega
set_option maxHeartbeats 1000000 in
theorem folded_any (n : Int) (w : World) :
    Calls Tryz.prog 62 #[.int .i64 n] w fun e w' => e = .returned (.int .i64 (foldN n)) ∧ w' = w := by
  have hc := fold_cases n
  generalize foldN n = M at *
  rcases hc with ⟨h1, h2⟩ | ⟨h1, h2⟩ | ⟨h0, h1, h2⟩ | ⟨h0, h1, h2⟩
  · have hm : max n (-1000000) = n := by omega
    have hn : min n 1000000 = 1000000 := by omega
    subst h2
    go_enter Tryz.func62, Tryz.ntmps62
    go_wp2_with fail
    go_ret
    exact ⟨rfl, rfl⟩
  · have hm : max n (-1000000) = -1000000 := by omega
    subst h2
    go_enter Tryz.func62, Tryz.ntmps62
    go_wp2_with fail
    go_ret
    exact ⟨rfl, rfl⟩
  · have hm : max n (-1000000) = n := by omega
    have hn : min n 1000000 = n := by omega
    have H2 : Hid ((M : Int) = -2 * n - 1) := h2
    clear h2
    go_enter Tryz.func62, Tryz.ntmps62
    go_wp2_with fail
    go_ret
    exact ⟨ret_int H2.out.symm, rfl⟩
  · have hm : max n (-1000000) = n := by omega
    have hn : min n 1000000 = n := by omega
    have H2 : Hid ((M : Int) = 2 * n) := h2
    clear h2
    go_enter Tryz.func62, Tryz.ntmps62
    go_wp2_with fail
    go_ret
    exact ⟨ret_int H2.out.symm, rfl⟩

/-- Numbers in a row of their own. -/
def NsAt (w : World) (b : Nat) (ns : List Int) : Prop := ∀ j (h : j < ns.length), w.cell? ⟨b, j, none⟩ = some (.int .i64 ns[j])
/-- The bytes of numbers, one behind the other. -/
def numsB (ns : List Int) : List UInt8 := (ns.map numB).flatten
theorem numsB_len (ns : List Int) : (numsB ns).length ≤ 4 * ns.length := by
  induction ns with
  | nil => simp [numsB]
  | cons n ns ih =>
    have := num_len n
    have e : numsB (n :: ns) = numB n ++ numsB ns := rfl
    rw [e, List.length_append, List.length_cons]; omega
theorem nums_next {ns : List Int} {i : Nat} (h : i < ns.length) : numsB (ns.drop i) = numB ns[i] ++ numsB (ns.drop (i + 1)) := by
  rw [List.drop_eq_getElem_cons h]; rfl

/-- What the loops of putNums have in hand: of what was there the row of v0 alone may have turned. -/
structure Pn (w wr : World) (base : Nat) (v0 v : Value) (K : List UInt8) : Prop where
  own : OwB wr base v K
  below : Below base w wr
  blk : ∀ k, k < w.heap.size → some k ≠ v0.ownBlock → wr.heap[k]? = w.heap[k]?
  where_ : v.ownBlock = v0.ownBlock ∨ ∃ k, v.ownBlock = some k ∧ w.heap.size ≤ k
theorem Pn.more {w wr w3 : World} {base : Nat} {v0 v v3 : Value} {K : List UInt8} {x : Value} {c : UInt8} {n : Int} (h : Pn w wr base v0 v K) (hbase : base ≤ w.heap.size) (hx : x = .int .u8 n) (hn : n = ((c.toNat : Nat) : Int))
    (hown : w3.ownsRow base 5 1 v3 (K.length + 1) (bcs K ++ [x])) (hgr : (wr.alloc (.cells #[x] 5)).grownBy w3 v.ownBlock) (hat : v3.ownBlock = v.ownBlock ∨ v3.ownBlock = some (wr.alloc (.cells #[x] 5)).heap.size) : Pn w w3 base v0 v3 (K ++ [c]) := by
  subst hx
  have hs := h.below.size
  refine ⟨owB_byte hown hn, (h.below.alloc (Nat.le_trans hbase hs) _).grown hgr (by rw [World.size_alloc]; omega) (fun k hk => (World.ownsRow.lt h.own k hk).1), fun k hk hk0 => ?_, ?_⟩
  · have hkv : some k ≠ v.ownBlock := by
      rcases h.where_ with e | ⟨k', e, hk'⟩
      · rw [e]; exact hk0
      · rw [e]; intro e2; injection e2 with e2; omega
    rw [hgr.block k (by rw [World.size_alloc]; omega) hkv, ← h.blk k hk hk0]
    show (wr.heap.push _)[k]? = _
    rw [Array.getElem?_push, if_neg (by omega)]
  · rcases hat with e | e
    · rw [e]; exact h.where_
    · exact .inr ⟨_, e, by rw [World.size_alloc]; omega⟩

set_option maxHeartbeats 2000000 in
set_option maxRecDepth 100000 in
theorem putNums_any (base b2 c2 : Nat) (v : Value) (L : List UInt8) (ns : List Int) (w : World) (hv : OwB w base v L) (hbase : base ≤ w.heap.size) (hns : NsAt w b2 ns) (hne : v.ownBlock ≠ some b2) (hlt : b2 < w.heap.size) (hN : L.length + 4 * ns.length ≤ 1048600) :
    Calls Tryz.prog 36 #[v, .slice (some ⟨b2, 0, none⟩) ns.length c2] w fun e w' => ∃ v', e = .returned v' ∧ OwB w' base v' (L ++ numsB ns) ∧ (v' = .slice none 0 0 → v = .slice none 0 0) ∧ Below base w w' ∧ ∀ k, k < w.heap.size → some k ≠ v.ownBlock → w'.heap[k]? = w.heap[k]? := by
  obtain ⟨i0, hi, hz0, hz1, hz2⟩ := parts8 infoU8
  have HI : Hid (Tryz.prog.info? 5 = some i0 ∧ i0.zero = some (.int .u8 0) ∧ i0.size = 1 ∧ i0.bytes = 1) := ⟨hi, hz0, hz1, hz2⟩
  clear hi hz0 hz1 hz2
  have HNS : Hid (NsAt w b2 ns) := hns
  have HP : Hid (Pn w w base v v L) := ⟨hv, Below.refl _ _, fun _ _ _ => rfl, .inl rfl⟩
  have HNE : Hid (some b2 ≠ v.ownBlock) := fun e => hne e.symm
  have HBS : Hid (base ≤ w.heap.size) := hbase
  obtain ⟨N, hNN⟩ : ∃ N, L ++ numsB ns = N := ⟨_, rfl⟩
  have hNl : N.length ≤ 1048600 := by have := numsB_len ns; rw [← hNN, List.length_append]; omega
  have HNN : Hid (L ++ numsB (ns.drop 0) = N) := hNN
  rw [hNN]
  have HNI : Hid (v = .slice none 0 0 → v = .slice none 0 0) := fun h => h
  obtain ⟨va, vc, rfl, _⟩ := hv.slice
  obtain ⟨v0, hv0⟩ : ∃ v0, v0 = Value.slice va L.length vc := ⟨_, rfl⟩
  rw [← hv0] at HNI
  have HV0 : Hid (v0 = Value.slice va L.length vc) := hv0
  clear hv hne hns hbase hNN hv0
  go_enter Tryz.func36, Tryz.ntmps36
  go_wp2_with fail
  go_loopw [0, 6, 7, 10] (fun u _ _ iv wr => ∃ (i : Nat) (K : List UInt8), i ≤ ns.length ∧ iv = .int .i64 i ∧ K ++ numsB (ns.drop i) = N ∧ Pn w wr base (.slice va L.length vc) u K ∧ (∃ a c, u = .slice a K.length c) ∧ (u = .slice none 0 0 → Value.slice va L.length vc = .slice none 0 0)) (fun _ _ _ iv _ => ns.length - (intOf iv).toNat)
  case atStart => exact ⟨0, L, Nat.zero_le _, rfl, HNN.out, HP.out, ⟨_, _, rfl⟩, fun h => h⟩
  case round =>
    obtain ⟨i, K, hi, rfl, hK, hp, ⟨ua, uc, rfl⟩, hnil⟩ := hrel
    have HK : Hid (K ++ numsB (ns.drop i) = N) := hK
    have HPP : Hid (Pn w wr base (.slice va L.length vc) (.slice ua K.length uc) K) := hp
    have HNIL : Hid (Value.slice ua K.length uc = .slice none 0 0 → Value.slice va L.length vc = .slice none 0 0) := hnil
    clear hK hnil
    by_cases hlti : i < ns.length
    · have q : wr.cell? ⟨b2, i, none⟩ = some (.int .i64 ns[i]) := by
        rw [World.cell?_of_block (w := w) (hp.blk b2 hlt HNE.out)]; exact HNS.out i hlti
      have HX : Hid (K ++ (numB ns[i] ++ numsB (ns.drop (i + 1))) = N) := by show _ = _; rw [← nums_next hlti]; exact HK.out
      generalize ns[i] = x at *
      obtain ⟨M, hM⟩ : ∃ M, foldN x = M := ⟨_, rfl⟩
      have hMl : M ≤ 2000000 := by rw [← hM]; exact fold_le x
      have HX2 : Hid ((K ++ grp M) ++ numsB (ns.drop (i + 1)) = N) := by
        have := HX.out
        rw [numB, hM, ← List.append_assoc] at this; exact this
      have HM : Hid (foldN x = M) := hM
      clear hp hM HX
      go_wp2_with (go_at_call 62; refine (folded_any _ _).mono ?_; rintro e w' ⟨rfl, rfl⟩; rw [HM.out])
      have HPW : Hid (Pn w w' base (.slice va L.length vc) (.slice ua K.length uc) K) := HPP.out
      go_loopw [0, 7] (fun u kv wr => ∃ (k : Nat) (K2 : List UInt8), k ≤ 2000000 ∧ kv = .int .i64 k ∧ K2 ++ grp k = K ++ grp M ∧ Pn w wr base (.slice va L.length vc) u K2 ∧ (∃ a c, u = .slice a K2.length c) ∧ (u = .slice none 0 0 → Value.slice ua K.length uc = .slice none 0 0)) (fun _ kv _ => (intOf kv).toNat)
      case atStart => exact ⟨M, K, hMl, rfl, rfl, HPW.out, ⟨_, _, rfl⟩, fun h => h⟩
      case round =>
        obtain ⟨k, K2, hk, rfl, hK2, hp2, ⟨ta, tc, rfl⟩, hnil2⟩ := hrel
        have HP2 : Hid (Pn w wr base (.slice va L.length vc) (.slice ta K2.length tc) K2) := hp2
        have HK2 : Hid (K2 ++ grp k = K ++ grp M) := hK2
        have HNI2 : Hid (Value.slice ta K2.length tc = .slice none 0 0 → Value.slice ua K.length uc = .slice none 0 0) := hnil2
        have hroom : K2.length + 1 ≤ 1048600 := by
          have h1 := grp_room hK2 hk
          have h2 := congrArg List.length HX2.out
          rw [List.length_append] at h2
          omega
        have D3 : Hid (K2.length + 1 ≤ maxLen) := by show _ ≤ _; unfold maxLen; omega
        have D4 : Hid ((K2.length + 1) * 1 ≤ 140737488355328) := by show _ ≤ _; omega
        have D5 : Hid (∀ x, base ≤ (wr.alloc (.cells #[x] 5)).heap.size) := fun x => by rw [World.size_alloc]; have := HBS.out; have := hp2.below.size; omega
        clear hK2 hp2 hnil2 hroom
        by_cases h128 : 128 ≤ k
        · go_wp2_with (at_builtin; refine wpList_append_own_at _ rfl _ _ 22 rfl base 5 i0 (.int .u8 0) 1 1 undU8 HI.out.1 HI.out.2.1 HI.out.2.2.1 HI.out.2.2.2 rfl Nat.zero_lt_one _ K2.length _ rfl (World.ownsRow.alloc HP2.out.own _) ⟨_, 0, none⟩ 1 1 [.int .u8 ((k : Int) % 128 + 128)] rfl rfl (cell_one_new _ _ _) (oneB _ _) D3.out D4.out (D5.out _) ?_; intro v3 w3 hown3 hgr3 hnn3 hat3)
          have HP3 : Hid (Pn w w3 base (.slice va L.length vc) v3 (K2 ++ [UInt8.ofNat (k % 128 + 128)])) := HP2.out.more HBS.out rfl (byte_more k) hown3 hgr3 hat3
          have HKN : Hid ((K2 ++ [UInt8.ofNat (k % 128 + 128)]) ++ grp (k / 128) = K ++ grp M) := grp_step HK2.out (by omega)
          have HN3 : Hid (v3 = .slice none 0 0 → Value.slice ua K.length uc = .slice none 0 0) := fun e => HNI2.out (hnn3.1 e).1
          clear hown3 hgr3 hnn3 hat3
          obtain ⟨xa, xc, rfl, _⟩ := HP3.out.own.slice
          go_wp2_with fail
          go_roundw
          case rel => exact ⟨k / 128, _, by omega, by first | rfl | (congr 1; omega) | go_num, HKN.out, HP3.out, ⟨_, _, rfl⟩, HN3.out⟩
          case measure => simp [intOf]; omega
        · go_wp2_with (at_builtin; refine wpList_append_own_at _ rfl _ _ 22 rfl base 5 i0 (.int .u8 0) 1 1 undU8 HI.out.1 HI.out.2.1 HI.out.2.2.1 HI.out.2.2.2 rfl Nat.zero_lt_one _ K2.length _ rfl (World.ownsRow.alloc HP2.out.own _) ⟨_, 0, none⟩ 1 1 [.int .u8 (k : Int)] rfl rfl (cell_one_new _ _ _) (oneB _ _) D3.out D4.out (D5.out _) ?_; intro v3 w3 hown3 hgr3 hnn3 hat3)
          have HP3 : Hid (Pn w w3 base (.slice va L.length vc) v3 (K2 ++ [UInt8.ofNat k])) := HP2.out.more HBS.out rfl (byte_last k (by omega)) hown3 hgr3 hat3
          have HKN : Hid ((K2 ++ [UInt8.ofNat k]) ++ numsB (ns.drop (i + 1)) = N) := by show _ = _; rw [grp_end HK2.out (by omega)]; exact HX2.out
          have HN3 : Hid (v3 = .slice none 0 0 → Value.slice va L.length vc = .slice none 0 0) := fun e => HNIL.out (HNI2.out (hnn3.1 e).1)
          clear hown3 hgr3 hnn3 hat3
          obtain ⟨xa, xc, rfl, _⟩ := HP3.out.own.slice
          go_wp2_with fail
          go_roundw
          case rel => exact ⟨i + 1, _, by omega, by go_num, HKN.out, HP3.out, ⟨_, _, rfl⟩, HN3.out⟩
          case measure => simp [intOf]; omega
    · have hie : i = ns.length := by omega
      subst hie
      have HE : Hid (K = N) := by
        have := HK.out
        rw [List.drop_length] at this
        show K = N
        simpa [numsB] using this
      clear hp
      go_wp2_with fail
      go_ret
      obtain rfl := HE.out
      exact ⟨_, rfl, HPP.out.own, HNIL.out, HPP.out.below, HPP.out.blk⟩
end Go.Proofs.YtgdlkekjbdkjjaaGreatDoor.By
