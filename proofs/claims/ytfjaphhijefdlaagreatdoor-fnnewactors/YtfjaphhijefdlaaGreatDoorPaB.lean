/-
  A text split at a byte: the specification's l8Split.
-/
import Derived.Test.YtfjaphhijefdlaaGreatDoorPaA
import Derived.Test.YtfjaphhijefdlaaGreatDoorSgA
namespace Go.Proofs.YtfjaphhijefdlaaGreatDoor.Code
open Go.RowKit
open Go.Proofs.YtfjaphhijefdlaaGreatDoor.Atom
set_option linter.unusedVariables false

/-- What a text is split into, where cur stands ahead of it. -/
def spl (sep : UInt8) (cur : List UInt8) : List UInt8 → List (List UInt8)
  | [] => [cur]
  | c :: r => if c = sep then cur :: spl sep [] r else spl sep (cur ++ [c]) r
theorem spl_ne (sep : UInt8) : ∀ (l cur : List UInt8), spl sep cur l ≠ []
  | [], cur => by simp [spl]
  | c :: r, cur => by unfold spl; split; simp; exact spl_ne sep r _
theorem spl_len (sep : UInt8) : ∀ (l cur : List UInt8), (spl sep cur l).length ≤ l.length + 1
  | [], cur => by simp [spl]
  | c :: r, cur => by
    unfold spl
    split
    · have := spl_len sep r []; simp; omega
    · have := spl_len sep r (cur ++ [c]); simp; omega

/-- The texts L stand in a row of the call's own. -/
def StrRow (w : World) (B : Nat) (v : Value) (L : List ByteArray) : Prop := w.ownsRow B 9 1 v L.length (L.map Value.string)
theorem StrRow.slice {w : World} {B : Nat} {v : Value} {L : List ByteArray} (h : StrRow w B v L) : ∃ va vc, v = .slice va L.length vc ∧ L.length ≤ vc ∧ vc ≤ maxLen := by
  rcases h.2 with ⟨hv, h0⟩ | ⟨g, cap, cur, hv, _, _, h1, h2, _⟩
  · exact ⟨none, 0, by rw [hv, h0], by omega, Nat.zero_le _⟩
  · exact ⟨_, cap, hv, h1, h2⟩
theorem StrRow.kept {w w' : World} {B : Nat} {v : Value} {L : List ByteArray} (h : StrRow w B v L) (hb : Below w.heap.size w w') : StrRow w' B v L :=
  World.ownsRow.kept h ⟨hb.os, hb.tape, hb.output, hb.size, fun k hk _ => hb.block k hk⟩ (row := none) (by cases hv : v.ownBlock with | none => exact .inl rfl | some x => exact .inr (by simp))
theorem StrRow.at {w : World} {B : Nat} {v : Value} {L : List ByteArray} (h : StrRow w B v L) (hL : L ≠ []) : ∃ b cap, B ≤ b ∧ v = .slice (some ⟨b, 0, none⟩) L.length cap ∧ ∀ j (hj : j < L.length), w.cell? ⟨b, j, none⟩ = some (.string L[j]) := by
  rcases h.2 with ⟨_, h0⟩ | ⟨g, cap, cur, hv, hB, hg, h1, _, hs, ht⟩
  · exact absurd (List.length_eq_zero_iff.1 h0) hL
  · refine ⟨g, cap, hB, hv, fun j hj => ?_⟩
    rw [World.cell?, hg]
    simp only
    rw [Nat.mul_one] at ht hs
    have h2 : (cur.toList.take L.length)[j]? = (L.map Value.string)[j]? := by rw [ht]
    rw [List.getElem?_take, if_pos hj, List.getElem?_map, List.getElem?_eq_getElem hj] at h2
    simpa using h2
theorem infoStrP : (Tryz.prog.info? 9).map (fun i => (i.zero, i.size, i.bytes)) = some (some (.string ByteArray.empty), 1, 16) := by kernel_rfl
theorem undStrsP : Tryz.prog.underlying 74 = some (.slice 9) := by kernel_rfl
theorem oneS (x : ByteArray) : ∀ u ∈ [Value.string x], u.oneCell' = true := fun u hu => by simp at hu; subst hu; rfl
theorem newsS (W : World) (x : ByteArray) : ∀ j u, [Value.string x][j]? = some u → (W.alloc (.cells #[.string x] 9)).cell? ((⟨W.heap.size, 0, none⟩ : Addr).add j) = some u := by
  intro j u hj
  match j, hj with
  | 0, hj => simp at hj; subst hj; simp [Addr.add]
theorem strRow_snoc {w : World} {B : Nat} {v : Value} {L : List ByteArray} {x : ByteArray} (h : w.ownsRow B 9 1 v (L.length + 1) (L.map Value.string ++ [.string x])) : StrRow w B v (L ++ [x]) := by
  unfold StrRow
  simpa using h

def dat (s : ByteArray) : List UInt8 := s.data.toList
theorem dat_len (s : ByteArray) : (dat s).length = s.size := by simp [dat]
theorem ext_dat (s : ByteArray) (f i : Nat) : dat (s.extract f i) = ((dat s).take i).drop f := by
  unfold dat; rw [Lib.extract_data, List.drop_take]
theorem drop_at (s : ByteArray) (i : Nat) (h : i < s.size) : (dat s).drop i = s[i] :: (dat s).drop (i + 1) := by
  have h' : i < (dat s).length := by rw [dat_len]; exact h
  rw [List.drop_eq_getElem_cons h']; rfl
theorem take_at (s : ByteArray) (f i : Nat) (h : i < s.size) (hf : f ≤ i) : ((dat s).take i).drop f ++ [s[i]] = ((dat s).take (i + 1)).drop f := by
  have h' : i < (dat s).length := by rw [dat_len]; exact h
  rw [List.take_succ_eq_append_getElem h', List.drop_append_of_le_length (by simp; omega)]; rfl

/-- What the loop has in hand. -/
def SpI (s : ByteArray) (sep : UInt8) (i f : Nat) (L : List ByteArray) : Prop :=
  (i ≤ s.size ∧ f ≤ i ∧ L.map dat ++ spl sep (((dat s).take i).drop f) ((dat s).drop i) = spl sep [] (dat s)) ∨ (i = s.size + 1 ∧ L.map dat = spl sep [] (dat s))
theorem spI_end {s : ByteArray} {sep : UInt8} {f : Nat} {L : List ByteArray} (h : SpI s sep s.size f L) : SpI s sep (s.size + 1) (s.size + 1) (L ++ [s.extract f s.size]) := by
  rcases h with ⟨_, _, h⟩ | ⟨h, _⟩
  · refine .inr ⟨rfl, ?_⟩
    have e : (dat s).drop s.size = [] := List.drop_of_length_le (by rw [dat_len]; omega)
    rw [← h, List.map_append, List.map_singleton, ext_dat, e, spl]
  · omega
theorem spI_hit {s : ByteArray} {sep : UInt8} {i f : Nat} {L : List ByteArray} (h : SpI s sep i f L) (hi : i < s.size) (he : s[i] = sep) : SpI s sep (i + 1) (i + 1) (L ++ [s.extract f i]) := by
  rcases h with ⟨_, hf, h⟩ | ⟨h, _⟩
  · refine .inl ⟨by omega, by omega, ?_⟩
    rw [← h, drop_at s i hi, spl, if_pos he, List.map_append, List.map_singleton, ext_dat, List.append_assoc]
    congr 1
    have e : ((dat s).take (i + 1)).drop (i + 1) = [] := List.drop_of_length_le (by rw [List.length_take]; omega)
    rw [e]; rfl
  · omega
theorem spI_miss {s : ByteArray} {sep : UInt8} {i f : Nat} {L : List ByteArray} (h : SpI s sep i f L) (hi : i < s.size) (he : s[i] ≠ sep) : SpI s sep (i + 1) f L := by
  rcases h with ⟨_, hf, h⟩ | ⟨h, _⟩
  · refine .inl ⟨by omega, by omega, ?_⟩
    rw [← h, drop_at s i hi, spl, if_neg he, take_at s f i hi hf]
  · omega

set_option maxHeartbeats 2000000 in
theorem split_any (s : ByteArray) (sep : UInt8) (sepi : Int) (hsep : sepi = (sep.toNat : Int)) (w : World) (hs : s.size ≤ 1048576) :
    Calls Tryz.prog 58 #[.string s, .int .u8 sepi] w fun e w' => ∃ v L, e = .returned v ∧ StrRow w' w.heap.size v L ∧ L.map dat = spl sep [] (dat s) ∧ Below w.heap.size w w' := by
  obtain ⟨i0, hi, hz0, hz1, hz2⟩ := info_parts infoStrP
  have HI : Hid (Tryz.prog.info? 9 = some i0 ∧ i0.zero = some (.string ByteArray.empty) ∧ i0.size = 1 ∧ i0.bytes = 16) := ⟨hi, hz0, hz1, hz2⟩
  have HSE : Hid (sepi = (sep.toNat : Int)) := hsep
  clear hi hz0 hz1 hz2 hsep
  go_enter Tryz.func58, Tryz.ntmps58
  go_wp2_with fail
  have HS : Hid (StrRow (w.alloc (.cells #[] 9)) w.heap.size (.slice (some ⟨w.heap.size, 0, none⟩) 0 0) [] ∧ Below w.heap.size w (w.alloc (.cells #[] 9))) := by
    refine ⟨?_, (Below.refl _ _).alloc (Nat.le_refl _) _⟩
    exact World.ownsRow_made (base := w.heap.size) (e := 9) (size := 1) w #[] 0 (Nat.le_refl _) (Nat.zero_le _) rfl
  go_loopw [5, 6, 7] (fun v fv iv wr => ∃ (i f : Nat) (L : List ByteArray), i ≤ s.size + 1 ∧ f ≤ s.size + 1 ∧ L.length ≤ i ∧ iv = .int .i64 i ∧ fv = .int .i64 f ∧ SpI s sep i f L ∧ StrRow wr w.heap.size v L ∧ Below w.heap.size w wr) (fun v fv iv wr => s.size + 1 - (intOf iv).toNat)
  case atStart => exact ⟨0, 0, [], Nat.zero_le _, Nat.zero_le _, Nat.le_refl _, rfl, rfl, .inl ⟨Nat.zero_le _, Nat.le_refl _, by simp⟩, HS.out.1, HS.out.2⟩
  case round =>
    obtain ⟨i, f, L, hi1, hf1, hLi, rfl, rfl, hsp, hrow, hbr⟩ := hrel
    obtain ⟨va, vc, rfl, hvc⟩ := hrow.slice
    have HSP : Hid (SpI s sep i f L) := hsp
    have HRO : Hid (StrRow wr w.heap.size (.slice va L.length vc) L) := hrow
    have HBR : Hid (Below w.heap.size w wr) := hbr
    clear hsp hrow hbr hvc HS
    by_cases hle : i ≤ s.size
    · have HF : Hid (f ≤ i) := by
        rcases HSP.out with ⟨_, h, _⟩ | ⟨h, _⟩
        · exact h
        · omega
      have hfi : f ≤ i := HF.out
      have C3 : Hid (L.length + 1 ≤ maxLen) := by show _ ≤ _; unfold maxLen; omega
      have C4 : Hid ((L.length + 1) * 16 ≤ 140737488355328) := by show _ ≤ _; omega
      by_cases hend : i = s.size
      · have HEN : Hid (SpI s sep (s.size + 1) (s.size + 1) (L ++ [s.extract f s.size])) := by
          have := HSP.out; rw [hend] at this; exact spI_end this
        rw [hend] at hfi
        subst hend
        have C5 : Hid (w.heap.size ≤ (wr.alloc (.cells #[.string (s.extract f s.size)] 9)).heap.size) := by show _ ≤ _; rw [World.size_alloc]; have := HBR.out.size; omega
        go_wp2_with (at_builtin; refine wpList_append_own _ rfl _ _ 74 rfl w.heap.size 9 i0 (.string ByteArray.empty) 1 16 undStrsP HI.out.1 HI.out.2.1 HI.out.2.2.1 HI.out.2.2.2 rfl Nat.zero_lt_one _ _ _ rfl (World.ownsRow.alloc HRO.out _) ⟨wr.heap.size, 0, none⟩ 1 1 [.string (s.extract f s.size)] rfl rfl (newsS wr _) (oneS _) C3.out C4.out C5.out ?_; intro v2 w2 hown2 hgr2 hnil2)
        have HR2 : Hid (StrRow w2 w.heap.size v2 (L ++ [s.extract f s.size])) := strRow_snoc hown2
        have HB2 : Hid (Below w.heap.size w w2) := (HBR.out.alloc HBR.out.size _).grown hgr2 C5.out (fun k hk => (World.ownsRow.lt HRO.out k hk).1)
        clear hown2 hgr2 hnil2
        go_wp2_with fail
        go_roundw
        case rel => exact ⟨s.size + 1, s.size + 1, L ++ [s.extract f s.size], by omega, by omega, by simp; omega, by go_num, by go_num, HEN.out, HR2.out, HB2.out⟩
        case measure => simp [intOf]
      · have hlt : i < s.size := by omega
        have hne : ((i : Int) == (s.size : Int)) = false := by simp; omega
        by_cases he : s[i] = sep
        · have HEN : Hid (SpI s sep (i + 1) (i + 1) (L ++ [s.extract f i])) := spI_hit HSP.out hlt he
          have hb : (((s[i]'hlt).toNat : Int) == sepi) = true := by rw [he, HSE.out]; simp
          have C5 : Hid (w.heap.size ≤ (wr.alloc (.cells #[.string (s.extract f i)] 9)).heap.size) := by show _ ≤ _; rw [World.size_alloc]; have := HBR.out.size; omega
          clear he
          go_wp2_with (at_builtin; refine wpList_append_own _ rfl _ _ 74 rfl w.heap.size 9 i0 (.string ByteArray.empty) 1 16 undStrsP HI.out.1 HI.out.2.1 HI.out.2.2.1 HI.out.2.2.2 rfl Nat.zero_lt_one _ _ _ rfl (World.ownsRow.alloc HRO.out _) ⟨wr.heap.size, 0, none⟩ 1 1 [.string (s.extract f i)] rfl rfl (newsS wr _) (oneS _) C3.out C4.out C5.out ?_; intro v2 w2 hown2 hgr2 hnil2)
          have HR2 : Hid (StrRow w2 w.heap.size v2 (L ++ [s.extract f i])) := strRow_snoc hown2
          have HB2 : Hid (Below w.heap.size w w2) := (HBR.out.alloc HBR.out.size _).grown hgr2 C5.out (fun k hk => (World.ownsRow.lt HRO.out k hk).1)
          clear hown2 hgr2 hnil2
          go_wp2_with fail
          go_roundw
          case rel => exact ⟨i + 1, i + 1, L ++ [s.extract f i], by omega, by omega, by simp; omega, by go_num, by go_num, HEN.out, HR2.out, HB2.out⟩
          case measure => simp [intOf]; omega
        · have HEN : Hid (SpI s sep (i + 1) f L) := spI_miss HSP.out hlt he
          have hb : (((s[i]'hlt).toNat : Int) == sepi) = false := by
            rw [beq_eq_false_iff_ne, HSE.out]
            intro e
            exact he (UInt8.toNat_inj.1 (by omega))
          clear he
          go_wp2_with fail
          go_roundw
          case rel => exact ⟨i + 1, f, L, by omega, by omega, by omega, by go_num, rfl, HEN.out, HRO.out, HBR.out⟩
          case measure => simp [intOf]; omega
    · have HFI : Hid (L.map dat = spl sep [] (dat s)) := by
        rcases HSP.out with ⟨h, _⟩ | ⟨_, h⟩
        · omega
        · exact h
      go_wp2_with fail
      go_ret
      exact ⟨_, L, rfl, HRO.out, HFI.out, HBR.out⟩
end Go.Proofs.YtfjaphhijefdlaaGreatDoor.Code
