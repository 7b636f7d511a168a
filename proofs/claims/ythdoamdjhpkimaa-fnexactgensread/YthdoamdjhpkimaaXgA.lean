/-
  The frame of a law over two lists: its marks.
-/
import Derived.Test.YthdoamdjhpkimaaXgS
import Derived.Test.YthdoamdjhpkimaaSlK
namespace Go.Proofs.Ythdoamdjhpkimaa
open Go.RowKit
set_option linter.unusedVariables false

set_option maxHeartbeats 1000000 in
theorem markIntS_any2 (b o N cap : Nat) (f : Nat → Int) (w : World) (hI : Ints w b o N f) (k : Int) (hk : 0 ≤ k ∧ k ≤ 1048577) (hN : N ≤ 1048576) :
    Calls Try.prog 51 #[.slice (some ⟨b, o, none⟩) N cap, .int .i64 k] w fun e w' => e = .returned (.int .i64 (k + N)) ∧ Turn b w w' ∧ Ints w' b o N (fun j => k + j) := by
  have HI : Hid (Ints w b o N f) := hI
  clear hI
  go_enter Try.func51, Try.ntmps51
  go_wp2_with fail
  go_loopw [1, 5] (fun a i w' => ∃ m : Nat, m ≤ N ∧ i = .int .i64 m ∧ a = .int .i64 (k + m) ∧ Turn b w w' ∧ Ints w' b o N (fun j => if j < m then k + j else f j)) (fun _ i _ => N - (intOf i).toNat)
  case atStart => exact ⟨0, Nat.zero_le _, by simp, by simp, Turn.refl _ _, HI.out.congr (fun j _ => by rw [if_neg (by omega)])⟩
  case round =>
    obtain ⟨m, hm, rfl, rfl, ht, hi⟩ := hrel
    have HT : Hid (Turn b w wr) := ht
    have HI2 : Hid (Ints wr b o N (fun j => if j < m then k + j else f j)) := hi
    by_cases hlt : m < N
    · have cm := hi.cell m hlt
      rw [if_neg (by omega)] at cm
      have fr : ∀ x, wr.frozen? ⟨b, x, none⟩ = false := hi.free
      clear ht hi
      go_wp2_with fail
      go_roundw
      case rel =>
        refine ⟨m + 1, by omega, by go_num, by go_num, HT.out.set _ _, (HI2.out.set m hlt _).congr fun j _ => ?_⟩
        unfold upd
        by_cases e : j = m
        · subst e
          rw [if_pos rfl, if_pos (by omega)]
        · rw [if_neg e]
          dsimp only
          by_cases e2 : j < m
          · rw [if_pos e2, if_pos (by omega)]
          · rw [if_neg e2, if_neg (by omega)]
      case measure => simp [intOf]; omega
    · have hme : m = N := by omega
      subst hme
      clear ht hi
      go_wp2_with fail
      go_ret
      exact ⟨rfl, HT.out, HI2.out.congr (fun j hj => by rw [if_pos hj])⟩

/-- Both lists are marked, one behind the other. -/
structure MkG (w w' : World) (g y N M : Nat) (k : Int) : Prop where
  ig : IG w' g y N M (fun j => k + j) (fun j => k + N + j)
  os : w'.os = w.os
  tape : w'.tape = w.tape
  output : w'.output = w.output
  size : w.heap.size ≤ w'.heap.size
  block : ∀ b, b < w.heap.size → b ≠ g → b ≠ y → w'.heap[b]? = w.heap[b]?
set_option maxHeartbeats 1000000 in
set_option maxRecDepth 100000 in
theorem markGens_any (g y N M : Nat) (cn cm : Nat) (f h : Nat → Int) (mk : Int) (w : World) (hI : IG w g y N M f h) (hF : Few N M) (hlt : y < w.heap.size) :
    Calls Try.prog 36 #[.agg #[.slice (some ⟨g, 0, none⟩) N cn, .slice (some ⟨y, 0, none⟩) M cm, .int .i64 mk], .int .i64 1] w fun e w' => e = .returned (.int .i64 (1 + N + M)) ∧ MkG w w' g y N M 1 := by
  have HI : Hid (IG w g y N M f h) := hI
  have HF : Hid (Few N M) := hF
  have hgy := hI.lt
  have hNi : (N : Int) ≤ 1048576 := by have := hF.1; omega
  have hNM : (1 : Int) + N ≤ 1048577 := by omega
  clear hI hF
  go_enter Try.func36, Try.ntmps36
  go_wp2_with fail
  generalize hA : w.alloc (.cells #[.slice (some ⟨g, 0, none⟩) N cn, .slice (some ⟨y, 0, none⟩) M cm, .int .i64 mk] 57) = wa
  have hba : Below w.heap.size w wa := by rw [← hA]; exact (Below.refl _ _).alloc (Nat.le_refl _) _
  have hza : wa.heap.size = w.heap.size + 1 := by rw [← hA, World.size_alloc]
  have qa : ∀ o, wa.cell? ⟨w.heap.size, o, none⟩ = (#[.slice (some ⟨g, 0, none⟩) N cn, .slice (some ⟨y, 0, none⟩) M cm, .int .i64 mk] : Array Value)[o]? := fun o => by rw [← hA]; exact World.cell?_alloc_new w _ _ o
  have hia := HI.out.below hba hlt
  have HBA : Hid (Below w.heap.size w wa) := hba
  clear hA hba
  refine (markIntS_any g 0 N cn f wa hia.o 1 (by decide) HF.out.1).mono ?_
  rintro e w1 ⟨rfl, ht1, hi1⟩
  have qa1 : ∀ o, w1.cell? ⟨w.heap.size, o, none⟩ = (#[.slice (some ⟨g, 0, none⟩) N cn, .slice (some ⟨y, 0, none⟩) M cm, .int .i64 mk] : Array Value)[o]? := fun o => by
    rw [World.cell?_of_block (w := wa) (ht1.block w.heap.size (by omega) (by omega))]; exact qa o
  have HT1 : Hid (Turn g wa w1) := ht1
  have HI1 : Hid (Ints w1 g 0 N (fun j => 1 + (j : Int))) := hi1
  have hj1 : Ints w1 y 0 M h := hia.i.turn ht1 (by omega) (by omega)
  have HJ1 : Hid (Ints w1 y 0 M h) := hj1
  have HZA : Hid (wa.heap.size = w.heap.size + 1) := hza
  have HZ1 : Hid (wa.heap.size ≤ w1.heap.size) := ht1.size
  clear qa ht1 hi1 hj1 hia hza
  go_wp2_with fail
  have hK : (0 : Int) ≤ 1 + N ∧ (1 : Int) + N ≤ 1048577 := by omega
  refine (markIntS_any2 y 0 M cm h w1 HJ1.out (1 + N) hK HF.out.2.1).mono ?_
  rintro e w2 ⟨rfl, ht2, hi2⟩
  have HT2 : Hid (Turn y w1 w2) := ht2
  have HI2 : Hid (Ints w2 y 0 M (fun j => 1 + (N : Int) + j)) := hi2
  clear ht2 hi2 qa1
  go_wp2_with fail
  go_ret
  have z0 := HZA.out
  have z1 := HZ1.out
  refine ⟨rfl, ⟨HI1.out.turn HT2.out (by omega) (by omega), HI2.out, hgy⟩, HT2.out.os.trans (HT1.out.os.trans HBA.out.os), HT2.out.tape.trans (HT1.out.tape.trans HBA.out.tape), HT2.out.output.trans (HT1.out.output.trans HBA.out.output), by have := HT2.out.size; omega, fun b h1 h2 h3 => ?_⟩
  rw [HT2.out.block b (by omega) h3, HT1.out.block b (by omega) h2, HBA.out.block b h1]
/-! ### Both kinds of GensRead, as the law asks them -/
def HG (N : Nat) (f : Nat → Int) (M : Nat) (h : Nat → Int) (L : List ByteArray) : Gn.Hp := Gn.GE.H ⟨N, f, none, 0, 0, 0, M, h, none, 0, 0, 0, 0, L, none, 0, 0, 0⟩
abbrev geOf (N : Nat) (f : Nat → Int) (M : Nat) (h : Nat → Int) (mk : Int) (L : List ByteArray) (g y s : Nat) : Gn.GE := ⟨N, f, some ⟨g, 0, none⟩, g, 0, N, M, h, some ⟨y, 0, none⟩, y, 0, M, mk, L, some ⟨s, 0, none⟩, s, 0, L.length⟩
theorem gsrc_of {w : World} {N M : Nat} {f h : Nat → Int} {mk : Int} {L : List ByteArray} {g y s : Nat} (hi : IG w g y N M f h) (ht : Txt w s 0 L) (hF : Few N M) (hL : L.length ≤ 1048576) (hf : ∀ j, f j ≤ 9223372036854775807) (hh : ∀ j, h j ≤ 9223372036854775807) (hs : ∀ x ∈ L, x.size ≤ 1048576) : Gn.GSrc (geOf N f M h mk L g y s) w :=
  ⟨hF.1, hF.2.1, hL, .inl ⟨rfl, Nat.le_refl _⟩, .inl ⟨rfl, Nat.le_refl _⟩, fun _ => rfl, fun j hj => hi.o.cell j hj, fun j hj => hi.i.cell j hj, ht, hf, hh, hs⟩
theorem specRdG (N : Nat) (f : Nat → Int) (M : Nat) (h : Nat → Int) (mk : Int) (L : List ByteArray) (g y s : Nat) (w : World) (k : Gn.GSrc (geOf N f M h mk L g y s) w) (x : Int) (hx : x ≤ 9223372036854775807) :
    Calls Try.prog 32 #[.agg #[.slice (some ⟨g, 0, none⟩) N N, .slice (some ⟨y, 0, none⟩) M M, .int .i64 mk], .slice (some ⟨s, 0, none⟩) L.length L.length, .int .i64 x] w fun e w' => ∃ a b c d' e' f', e = .returned (.tuple #[.agg #[.int .i64 a, .int .i64 b, .string c, .slice d' e' f'], .bool (Gn.readT (HG N f M h L) x).isSome]) ∧ Below w.heap.size w w' ∧ RepV 0 w' (tOf (Gn.readT (HG N f M h L) x)) (.agg #[.int .i64 a, .int .i64 b, .string c, .slice d' e' f']) := by
  refine Calls.mono (Gn.specGensRead_any (geOf N f M h mk L g y s) w k x hx) ?_
  rintro e w' ⟨a, b, c, d', e', f', rfl, hb, hr⟩
  refine ⟨a, b, c, d', e', f', rfl, hb, ?_⟩
  rcases hr with ⟨t, ht, hv⟩ | ⟨hn, hz⟩
  · have ht' : Gn.readT (HG N f M h L) x = some t := ht
    rw [ht']; exact hv.rep
  · have hn' : Gn.readT (HG N f M h L) x = none := hn
    rw [hn', hz]
    exact ⟨none, 0, rfl, Nat.zero_le _, Nat.le_refl _, Nat.zero_le _, by rw [RepL]; trivial⟩
theorem implRdG (N : Nat) (f : Nat → Int) (M : Nat) (h : Nat → Int) (mk : Int) (L : List ByteArray) (g y s : Nat) (w : World) (k : Gn.GSrc (geOf N f M h mk L g y s) w) (x : Int) (hx : x ≤ 9223372036854775807) :
    Calls Try.prog 34 #[.agg #[.slice (some ⟨g, 0, none⟩) N N, .slice (some ⟨y, 0, none⟩) M M, .int .i64 mk], .slice (some ⟨s, 0, none⟩) L.length L.length, .int .i64 x] w fun e w' => ∃ v, e = .returned (.tuple #[v, .bool (Gn.readT (HG N f M h L) x).isSome]) ∧ Below w.heap.size w w' ∧ OwV w' w.heap.size w'.heap.size (tOf (Gn.readT (HG N f M h L) x)) v := by
  refine Calls.mono (Gn.implGensRead_any (geOf N f M h mk L g y s) w k x hx) ?_
  rintro e w' ⟨hb, ⟨t, v, ht, rfl, hv⟩ | ⟨hn, rfl⟩⟩
  · have ht' : Gn.readT (HG N f M h L) x = some t := ht
    exact ⟨v, by rw [ht']; rfl, hb, by rw [ht']; exact hv⟩
  · have hn' : Gn.readT (HG N f M h L) x = none := hn
    refine ⟨zT, by rw [hn']; rfl, hb, ?_⟩
    rw [hn']
    exact ⟨none, 0, rfl, Nat.zero_le _, Nat.le_refl _, Nat.zero_le _, by rw [OwL]; trivial⟩
theorem tOf_smallG {H : Gn.Hp} (x : Int) {k n : Int} {s : ByteArray} {l : List Tm} (h : tOf (Gn.readT H x) = .mk k n s l) : cL l ≤ 2900 := by
  unfold Gn.readT at h
  cases hq : Gn.rT true H 6 x 100 with
  | none =>
    rw [hq] at h
    simp only [Option.map_none, tOf, Tm.mk.injEq] at h
    obtain ⟨_, _, _, rfl⟩ := h
    rw [cL]; omega
  | some p =>
    obtain ⟨t, y⟩ := p
    rw [hq] at h
    simp only [Option.map_some, tOf] at h
    have hl := Gn.rT_look 6 x 100 t y hq
    have := look_cT t 6 100 y hl
    rw [h, cT] at this
    omega
end Go.Proofs.Ythdoamdjhpkimaa
