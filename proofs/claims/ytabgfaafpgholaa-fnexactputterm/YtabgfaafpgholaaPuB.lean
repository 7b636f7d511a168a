/-
  How the specification puts a term: what needs no room; bytes.
-/
import Derived.Test.YtabgfaafpgholaaPuA
namespace Go.Proofs.Ytabgfaafpgholaa
open Go.RowKit
set_option linter.unusedVariables false

mutual
/-- How many terms. -/
def nT : Tm → Nat
  | .mk _ _ _ l => 1 + nL l
def nL : List Tm → Nat
  | [] => 0
  | t :: r => nT t + nL r
end
/-- What l5Put answers. -/
def Put (Z : PZ) (m : PM) (w : World) (xs : List Int) (A : List ByteArray) (R : Option (List Int × List ByteArray × Int)) (nd nt : Nat) (e : Ending) (w' : World) : Prop :=
  ∃ x ok m' ns A', e = .returned (.tuple #[.int .i64 x, .bool ok]) ∧ PS Z m' w' (xs ++ ns) A' ∧ Fr Z m w w' ∧ Mv m m' w.heap.size ∧ ns.length = nd ∧ A'.length ≤ A.length + nt ∧ ((ok = true ∧ R = some (ns, A', x)) ∨ (ok = false ∧ R = none))
def PutC (t : Tm) : Prop := ∀ (Z : PZ) (m : PM) (w : World) (xs : List Int) (A : List ByteArray) (v : Value), PS Z m w xs A → RpV (SZ Z) w t v → goodT t → xs.length + ndT t ≤ 100000 → A.length + nT t ≤ 1048577 →
  Calls Try.prog 42 #[.pointer (some ⟨Z.wb, Z.wo, none⟩), .pointer (some ⟨Z.nb, 0, none⟩), v] w (Put Z m w xs A (ptT t xs.length A) (ndT t) (nT t))
theorem ret_ib {x y : Int} {a b : Bool} (h : x = y) (k : a = b) : Ending.returned (.tuple #[.int .i64 x, .bool a]) = .returned (.tuple #[.int .i64 y, .bool b]) := by rw [h, k]
theorem infoInt : (Try.prog.info? 3).map (fun i => (i.zero, i.size, i.bytes)) = some (some (.int .i64 0), 1, 8) := by kernel_rfl
theorem undInts : Try.prog.underlying 22 = some (.slice 3) := by kernel_rfl
theorem srcI (w : World) (x : Int) (t : TypeId) : ∀ j u, [Value.int .i64 x][j]? = some u → (w.alloc (.cells #[.int .i64 x] t)).cell? ((⟨w.heap.size, 0, none⟩ : Addr).add j) = some u := fun j u hu => by
  rw [Addr.add_lit, Nat.zero_add, World.cell?_alloc_new]
  simpa using hu
theorem oneI (x : Int) : ∀ u ∈ [Value.int .i64 x], u.oneCell' = true := fun u hu => by
  obtain rfl : u = .int .i64 x := by simpa using hu
  rfl
set_option maxHeartbeats 2000000 in
set_option maxRecDepth 100000 in
theorem put_1 (n : Int) (s : ByteArray) (l : List Tm) (hl : l = []) : PutC (.mk 1 n s l) := by
  intro Z m w xs A v hps hv hK hx hA
  obtain ⟨ao, cap, rfl, hs, hlc, hcm, hr⟩ := hv
  subst hl
  have hsh : shapeB 1 n s 0 = true := by rw [goodT] at hK; exact hK.1
  have hb : Below w.heap.size w (w.alloc (.cells #[.int .i64 1, .int .i64 n, .string s, .slice ao ([] : List Tm).length cap] 39)) := (Below.refl _ _).alloc (Nat.le_refl _) _
  have HP : Hid (PS Z m (w.alloc (.cells #[.int .i64 1, .int .i64 n, .string s, .slice ao ([] : List Tm).length cap] 39)) xs A) := hps.below hb
  have HF : Hid (Fr Z m w (w.alloc (.cells #[.int .i64 1, .int .i64 n, .string s, .slice ao ([] : List Tm).length cap] 39))) := Fr.below hb
  have hn : -1000000 ≤ n ∧ n ≤ 1000000 := by simp [shapeB, inB] at hsh; omega
  have hn1 := hn.1
  have hn2 := hn.2
  have HR : Hid (∀ x : Int, x = mkw 0 (n + 1000000) → ptT (.mk 1 n s []) xs.length A = some ([], A, x)) := fun x hx => by rw [ptT]; simp [hx]
  have HD : Hid (([] : List Int).length = ndT (.mk 1 n s [])) := by show _ = _; simp [ndT, ndO, ndL]
  clear hps hr hK hx hA hb hsh hn
  simp only [List.length_nil] at *
  go_enter Try.func42, Try.ntmps42
  go_wp2_with (go_at_call 66; refine (specMake_any _ _ _).mono ?_; rintro e w' ⟨rfl, rfl⟩)
  go_ret2
  exact ⟨_, true, m, [], A, rfl, by rw [List.append_nil]; exact HP.out, HF.out, Mv.refl _ _, HD.out, by omega, .inl ⟨rfl, HR.out _ rfl⟩⟩
set_option maxHeartbeats 2000000 in
set_option maxRecDepth 100000 in
theorem put_3 (n : Int) (s : ByteArray) (l : List Tm) (hl : l = []) : PutC (.mk 3 n s l) := by
  intro Z m w xs A v hps hv hK hx hA
  obtain ⟨ao, cap, rfl, hs, hlc, hcm, hr⟩ := hv
  subst hl
  have hsh : shapeB 3 n s 0 = true := by rw [goodT] at hK; exact hK.1
  have hb : Below w.heap.size w (w.alloc (.cells #[.int .i64 3, .int .i64 n, .string s, .slice ao ([] : List Tm).length cap] 39)) := (Below.refl _ _).alloc (Nat.le_refl _) _
  have HP : Hid (PS Z m (w.alloc (.cells #[.int .i64 3, .int .i64 n, .string s, .slice ao ([] : List Tm).length cap] 39)) xs A) := hps.below hb
  have HF : Hid (Fr Z m w (w.alloc (.cells #[.int .i64 3, .int .i64 n, .string s, .slice ao ([] : List Tm).length cap] 39))) := Fr.below hb
  have hn : -1000000 ≤ n ∧ n ≤ 1000000 := by simp [shapeB, inB] at hsh; omega
  have hn1 := hn.1
  have hn2 := hn.2
  have HR : Hid (∀ x : Int, x = mkw 2 n → ptT (.mk 3 n s []) xs.length A = some ([], A, x)) := fun x hx => by rw [ptT]; simp [hx]
  have HD : Hid (([] : List Int).length = ndT (.mk 3 n s [])) := by show _ = _; simp [ndT, ndO, ndL]
  clear hps hr hK hx hA hb hsh hn
  simp only [List.length_nil] at *
  go_enter Try.func42, Try.ntmps42
  go_wp2_with (go_at_call 66; refine (specMake_any _ _ _).mono ?_; rintro e w' ⟨rfl, rfl⟩)
  go_ret2
  exact ⟨_, true, m, [], A, rfl, by rw [List.append_nil]; exact HP.out, HF.out, Mv.refl _ _, HD.out, by omega, .inl ⟨rfl, HR.out _ rfl⟩⟩
set_option maxHeartbeats 2000000 in
set_option maxRecDepth 100000 in
theorem put_2 (n : Int) (s : ByteArray) (l : List Tm) (hl : l = []) : PutC (.mk 2 n s l) := by
  intro Z m w xs A v hps hv hK hx hA
  obtain ⟨ao, cap, rfl, hs, hlc, hcm, hr⟩ := hv
  subst hl
  have hsh : shapeB 2 n s 0 = true := by rw [goodT] at hK; exact hK.1
  have hb : Below w.heap.size w (w.alloc (.cells #[.int .i64 2, .int .i64 n, .string s, .slice ao ([] : List Tm).length cap] 39)) := (Below.refl _ _).alloc (Nat.le_refl _) _
  have HP : Hid (PS Z m (w.alloc (.cells #[.int .i64 2, .int .i64 n, .string s, .slice ao ([] : List Tm).length cap] 39)) xs A) := hps.below hb
  have HF : Hid (Fr Z m w (w.alloc (.cells #[.int .i64 2, .int .i64 n, .string s, .slice ao ([] : List Tm).length cap] 39))) := Fr.below hb
  have HR1 : Hid (addK A s < 0 → ptT (.mk 2 n s []) xs.length A = none) := fun h => by rw [ptT]; simp [h]
  have HR2 : Hid (¬ addK A s < 0 → ptT (.mk 2 n s []) xs.length A = some ([], addL A s, mkw 1 (addK A s))) := fun h => by rw [ptT]; simp [h]
  have HD : Hid (([] : List Int).length = ndT (.mk 2 n s [])) := by show _ = _; simp [ndT, ndO, ndL]
  have HT : Hid (1 ≤ nT (.mk 2 n s [])) := by show _ ≤ _; rw [nT]; omega
  have HS : Hid (s.size ≤ maxLen) := hs
  have HAL : Hid (A.length ≤ 1048576) := by show _ ≤ _; have := HT.out; omega
  have hac := HP.out.ac
  clear hps hr hK hx hA hb hsh hs
  simp only [List.length_nil] at *
  go_enter Try.func42, Try.ntmps42
  go_wp2_with fail
  generalize hW : (w.alloc (.cells #[.int .i64 2, .int .i64 n, .string s, .slice ao 0 cap] 39)) = W at *
  have hbx : ∀ o, W.cell? ⟨w.heap.size, o, none⟩ = (#[.int .i64 2, .int .i64 n, .string s, .slice ao 0 cap] : Array Value)[o]? := fun o => by rw [← hW]; exact World.cell?_alloc_new w _ _ o
  clear hW
  go_region_law (go_simp; go_wp2_with (go_at_call 67; refine (specAdd_any m.ga 0 m.ca A s W.drew HP.out.txt HAL.out HS.out (fun _ => HP.out.ga.2)).mono ?_; rintro e w1 ⟨v1, rfl, hv1, hb1⟩; obtain ⟨g1, c1, rfl, hr1⟩ := hv1; have HB1 : Hid (Below W.heap.size W w1) := ⟨hb1.os, hb1.tape, hb1.output, hb1.size, hb1.block⟩; have HO1 : Hid (w1.ownsRow W.heap.size 9 1 (.slice (some ⟨g1, 0, none⟩) (addL A s).length c1) (addL A s).length ((addL A s).map Value.string)) := hr1; have a1 := (HP.out.below HB1.out).ac; have a2 := (HP.out.below HB1.out).af; clear hr1 hb1))
  all_goals
    obtain ⟨p1, p2, p3⟩ := HP.out.atoms HB1.out HO1.out
    have P1 : Hid (PS Z ⟨m.gw, m.cw, g1, c1⟩ (w1.setCell ⟨Z.nb, 0, none⟩ (.slice (some ⟨g1, 0, none⟩) (addL A s).length c1)) xs (addL A s)) := p1
    have P2 : Hid (Fr Z m w (w1.setCell ⟨Z.nb, 0, none⟩ (.slice (some ⟨g1, 0, none⟩) (addL A s).length c1))) := HF.out.trans (Mv.refl _ _) p2
    have P3 : Hid (Mv m ⟨m.gw, m.cw, g1, c1⟩ w.heap.size) := (Mv.refl m w.heap.size).trans p3 HF.out.size
    clear p1 p2 p3
    generalize hk : addK A s = k at *
    go_wp2_with (go_at_call 66; refine (specMake_any _ _ _).mono ?_; rintro e w' ⟨rfl, hw'⟩; obtain rfl := hw'.symm)
    go_ret2
    have hal := addL_len A s
    have ht := HT.out
    by_cases h0 : k < 0
    · exact ⟨_, false, _, [], _, ret_ib rfl (by simp; omega), by rw [List.append_nil]; exact P1.out, P2.out, P3.out, HD.out, by omega, .inr ⟨rfl, HR1.out h0⟩⟩
    · exact ⟨_, true, _, [], _, ret_ib rfl (by simp; omega), by rw [List.append_nil]; exact P1.out, P2.out, P3.out, HD.out, by omega, .inl ⟨rfl, HR2.out (by omega)⟩⟩
end Go.Proofs.Ytabgfaafpgholaa
