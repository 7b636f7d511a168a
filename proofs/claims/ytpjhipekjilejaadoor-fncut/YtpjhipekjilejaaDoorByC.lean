/-
  A number put behind bytes: what both kinds of PutNum answer.
-/
import Derived.Test.YtpjhipekjilejaaDoorByB
import Derived.Maps.AppendAt
import Derived.Laws.OwnMore
namespace Go.Proofs.YtpjhipekjilejaaDoor.By
open Go.RowKit
set_option linter.unusedVariables false

def bcs (L : List UInt8) : List Value := L.map fun c => Value.int .u8 ((c.toNat : Nat) : Int)
/-- A row of bytes of the call's own. -/
def OwB (w : World) (base : Nat) (v : Value) (L : List UInt8) : Prop := w.ownsRow base 5 1 v L.length (bcs L)
theorem OwB.slice {w : World} {base : Nat} {v : Value} {L : List UInt8} (h : OwB w base v L) : ∃ a c, v = .slice a L.length c ∧ (v.ownBlock = none → a = none) ∧ ∀ k, v.ownBlock = some k → a = some ⟨k, 0, none⟩ := by
  rcases h.2 with ⟨rfl, hn⟩ | ⟨g, cap, cur, rfl, _⟩
  · exact ⟨none, 0, by rw [hn], fun _ => rfl, fun k hk => by simp [Value.ownBlock] at hk⟩
  · exact ⟨_, _, rfl, fun h => by simp [Value.ownBlock] at h, fun k hk => by simp [Value.ownBlock] at hk; rw [hk]⟩
theorem OwB.rd {w : World} {base : Nat} {v : Value} {L : List UInt8} (h : OwB w base v L) : ∃ a c, v = .slice a L.length c ∧ RdB w a L := by
  rcases h.2 with ⟨rfl, hn⟩ | ⟨g, cap, cur, rfl, hb, hg, hl, hm, hs, ht⟩
  · exact ⟨none, 0, by rw [hn], fun h0 => absurd hn h0⟩
  · refine ⟨_, _, rfl, fun _ => ⟨g, 0, rfl, fun j hj => ?_⟩⟩
    rw [Nat.zero_add]
    have e : (cur.toList.take (L.length * 1))[j]? = (bcs L)[j]? := by rw [ht]
    rw [List.getElem?_take_of_lt (by omega)] at e
    simp only [World.cell?, hg]
    rw [Array.getElem?_toList] at e
    rw [show ((bcs L)[j]? = some (.int .u8 ((L[j].toNat : Nat) : Int))) by simp [bcs, hj]] at e
    exact e
theorem OwB.at {w : World} {base g c : Nat} {L : List UInt8} (h : OwB w base (.slice (some ⟨g, 0, none⟩) L.length c) L) : BAt w g 0 L ∧ base ≤ g ∧ g < w.heap.size ∧ ∀ x, w.frozen? ⟨g, x, none⟩ = false := by
  have hlt := World.ownsRow.lt h g rfl
  refine ⟨fun j hj => ?_, hlt.1, hlt.2, fun x => ?_⟩
  · obtain ⟨a, c2, e, hr⟩ := h.rd
    injection e with e1 e2 e3
    subst e1
    obtain ⟨b, o, e4, hc⟩ := hr (by omega)
    injection e4 with e4
    injection e4 with e5 e6
    subst e5
    subst e6
    exact hc j hj
  · rcases h.2 with ⟨e, _⟩ | ⟨g2, cap, cur, e, hb, hg, _⟩
    · cases e
    · injection e with e1
      injection e1 with e1
      injection e1 with e1
      subst e1
      simp [World.frozen?, hg]
theorem oneB (k : IntKind) (x : Int) : ∀ u ∈ [Value.int k x], u.oneCell' = true := fun u hu => by simp at hu; subst hu; rfl
theorem oneBs (L : List UInt8) : ∀ u ∈ bcs L, u.oneCell' = true := fun u hu => by
  obtain ⟨c, _, rfl⟩ := List.mem_map.1 hu; rfl
theorem lenBs (L : List UInt8) : (bcs L).length = L.length * 1 := by simp [bcs]
theorem srcB {w : World} {b o : Nat} {L : List UInt8} (h : BAt w b o L) : ∀ j u, (bcs L)[j]? = some u → w.cell? ((⟨b, o, none⟩ : Addr).add j) = some u := by
  intro j u hj
  have hl : j < L.length := by
    have := (List.getElem?_eq_some_iff.1 hj).1
    rw [lenBs] at this; omega
  rw [Addr.add_lit, h j hl]
  simp [bcs, hl] at hj
  rw [hj]
theorem bcs_cat (L M : List UInt8) : bcs (L ++ M) = bcs L ++ bcs M := List.map_append
theorem owB_more {w : World} {base : Nat} {v : Value} {L M : List UInt8} {n : Nat} (h : w.ownsRow base 5 1 v n (bcs L ++ bcs M)) (hn : n = L.length + M.length) : OwB w base v (L ++ M) := by
  subst hn
  unfold OwB
  rw [bcs_cat, List.length_append]; exact h
theorem owB_byte {w : World} {base : Nat} {v : Value} {L : List UInt8} {c : UInt8} {x : Int} (h : w.ownsRow base 5 1 v (L.length + 1) (bcs L ++ [.int .u8 x])) (hx : x = ((c.toNat : Nat) : Int)) : OwB w base v (L ++ [c]) := by
  subst hx
  exact owB_more (M := [c]) h rfl
theorem OwB.below {w w' : World} {base : Nat} {v : Value} {L : List UInt8} (h : OwB w base v L) (hb : Below w.heap.size w w') : OwB w' base v L :=
  World.ownsRow.kept (row := none) h ⟨hb.os, hb.tape, hb.output, hb.size, fun k hk _ => hb.block k hk⟩ (by cases hv : v.ownBlock with | none => exact .inl rfl | some k => exact .inr (by simp))
theorem OwB.some {w : World} {base : Nat} {v : Value} {L : List UInt8} (h : OwB w base v L) (hn : v ≠ .slice none 0 0) : ∃ g c, v = .slice (some ⟨g, 0, none⟩) L.length c := by
  rcases h.2 with ⟨e, _⟩ | ⟨g, cap, cur, rfl, _⟩
  · exact absurd e hn
  · exact ⟨g, cap, rfl⟩

theorem and127 (n : Nat) : bits .and .i64 (n : Int) 127 = (n : Int) % 128 := by
  have h127 : (BitVec.ofInt 64 127).toNat = 2 ^ 7 - 1 := by decide
  have key : (BitVec.ofInt 64 (n : Int) &&& BitVec.ofInt 64 127).toNat = ((n : Int) % ((2 ^ 64 : Nat) : Int)).toNat % 2 ^ 7 := by
    rw [BitVec.toNat_and, BitVec.toNat_ofInt, h127, Nat.and_two_pow_sub_one_eq_mod]
  show IntKind.i64.wrap ((BitVec.ofInt 64 (n : Int) &&& BitVec.ofInt 64 127).toNat : Nat) = (n : Int) % 128
  rw [key, IntKind.wrap_i64]
  omega
theorem or128 (n : Nat) : bits .or .i64 ((n : Int) % 128) 128 = (n : Int) % 128 + 128 := by
  have key : ∀ k : Fin 128, bits .or .i64 ((k.val : Nat) : Int) 128 = ((k.val + 128 : Nat) : Int) := by decide +kernel
  have h := key ⟨n % 128, Nat.mod_lt _ (by decide)⟩
  simp only at h
  have e : ((n % 128 : Nat) : Int) = (n : Int) % 128 := by omega
  rw [e] at h
  rw [h]
  omega
theorem byte_more (k : Nat) : (k : Int) % 128 + 128 = (((UInt8.ofNat (k % 128 + 128)).toNat : Nat) : Int) := by rw [toNat_of (by omega)]; omega
theorem byte_last (k : Nat) (h : k < 128) : (k : Int) = (((UInt8.ofNat k).toNat : Nat) : Int) := by rw [toNat_of (by omega)]
theorem grp_step {K N : List UInt8} {k : Nat} (h : K ++ grp k = N) (hk : ¬ k < 128) : (K ++ [UInt8.ofNat (k % 128 + 128)]) ++ grp (k / 128) = N := by
  rw [← h, grp_more hk, List.append_assoc]; rfl
theorem grp_end {K N : List UInt8} {k : Nat} (h : K ++ grp k = N) (hk : k < 128) : K ++ [UInt8.ofNat k] = N := by
  rw [← h, grp_last hk]
theorem grp_room {K N : List UInt8} {k : Nat} (h : K ++ grp k = N) (hk : k ≤ 2000000) : K.length + 1 ≤ N.length := by
  have := grp_len k (by omega)
  rw [← h, List.length_append]; omega

end Go.Proofs.YtpjhipekjilejaaDoor.By
