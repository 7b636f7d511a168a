/-
  Putting, the program's: the copies that it makes, and what it begins with.
  (Ahead of it, in this text: A new arena, the specification's and the program's: both are one free block.)
-/
import Derived.Test.YtabgfaafpgholaaW4
import Derived.Deep.OwnRows
import Derived.Test.YtabgfaafpgholaaW42
import Derived.Laws.EntriesVeiled
import Derived.Test.YtabgfaafpgholaaW11
import Derived.Test.YtabgfaafpgholaaW9
import Derived.Test.YtabgfaafpgholaaW43
import Derived.Test.YtabgfaafpgholaaW13
namespace Go.Proofs.Ytabgfaafpgholaa
open Go.RowKit
set_option linter.unusedVariables false

theorem run_ints (n : Nat) (hn : n ≤ 1048576) (w : World) :
    (Instr.makeSlice 22 (.int .i64 (n : Int)) (.int .i64 (n : Int))).run Try.prog w = .ok (.slice (some ⟨w.heap.size, 0, none⟩) n n) (w.alloc (.cells (madeCells #[.int .i64 0] n) 3)) :=
  run_make_row' (P := Try.prog) 22 3 (.int .i64 0) 8 undInts infoInt rfl .i64 .i64 n (by omega) (by omega) w
theorem ints_made (w : World) (n : Nat) : Ints (w.alloc (.cells (madeCells #[.int .i64 0] n) 3)) w.heap.size 0 n (fun _ => 0) := by
  have h := World.rowIs_made w (.int .i64 0) n 3
  refine ⟨fun j hj => ?_, fun x => h.frozen x⟩
  rw [Nat.zero_add]
  exact h.cell hj

theorem three_first (w : World) (a : Array Value) (ta : TypeId) (B C : Obj) (o : Nat) :
    (((w.alloc (.cells a ta)).alloc B).alloc C).cell? ⟨w.heap.size, o, none⟩ = a[o]? ∧ (((w.alloc (.cells a ta)).alloc B).alloc C).frozen? ⟨w.heap.size, o, none⟩ = false := by
  have hb : Below (w.alloc (.cells a ta)).heap.size (w.alloc (.cells a ta)) (((w.alloc (.cells a ta)).alloc B).alloc C) := ((Below.refl _ _).alloc (Nat.le_refl _) B).alloc (by simp) C
  refine ⟨?_, ?_⟩
  · rw [hb.cell (p := ⟨w.heap.size, o, none⟩) (by simp)]; exact World.cell?_alloc_new w a ta o
  · rw [hb.frozen (p := ⟨w.heap.size, o, none⟩) (by simp)]; exact World.frozen?_alloc_new w a ta o

/-- What a new arena of n words holds. -/
def freshF (n : Nat) : Nat → Int := layF (fun _ => 0) 0 (n - 3) false

end Go.Proofs.Ytabgfaafpgholaa
namespace Go.Proofs.Ytabgfaafpgholaa
open Go.RowKit
set_option linter.unusedVariables false

theorem sizeInt1 : (Try.prog.info? 3).map (·.size) = some 1 := by kernel_rfl
theorem run_fillI (W W0 : World) (B g n cap : Nat) (hv : Option Addr) (xs : List Int) (hg : W.heap[g]? = some (.cells (madeCells #[.int .i64 0] n) 3 (0, 0))) (hsrc : xs ≠ [] → ∃ b, hv = some ⟨b, 0, none⟩ ∧ ∀ j (h : j < xs.length), W.cell? ⟨b, j, none⟩ = some (.int .i64 xs[j])) (hb : Below B W0 W) (hBg : B ≤ g) (hx : xs.length ≤ n) :
    ∃ W2, (Builtin.copy_ #[22, 22] 3 #[.slice (some ⟨g, 0, none⟩) n n, .slice hv xs.length cap]).run Try.prog W = .ok (.int .i64 (xs.length : Int)) W2 ∧
      Ints W2 g 0 n (ovr (fun _ => 0) 0 xs) ∧ Below B W0 W2 ∧ g < W2.heap.size := by
  have hgl : g < W.heap.size := by
    rcases Nat.lt_or_ge g W.heap.size with h | h
    · exact h
    · rw [Array.getElem?_eq_none h] at hg; cases hg
  have hml : (madeCells #[.int .i64 0] n).size = n := size_madeCells _ _
  have hcl : (xs.map (Value.int .i64)).length = xs.length := by simp
  have hzero : ∀ j, j < n → (madeCells #[Value.int .i64 0] n)[j]? = some (.int .i64 0) := fun j hj => by
    have h := World.rowIs_made W (.int .i64 0) n 3
    have h2 := h.cell hj
    rw [World.cell?_alloc_new] at h2
    exact h2
  by_cases h0 : xs = []
  · subst h0
    refine ⟨W, run_copy_none (P := Try.prog) W _ _ _ 3 _ _ _ _ _ _ undInts sizeInt1 (by simp), ⟨fun j hj => ?_, fun x => by simp [World.frozen?, hg]⟩, hb, hgl⟩
    rw [ovr_nil, Nat.zero_add]
    simp only [World.cell?, hg]
    exact hzero j hj
  · obtain ⟨b, rfl, hc⟩ := hsrc h0
    have hrun := run_copy_row (P := Try.prog) W 22 22 3 3 g 0 n n ⟨b, 0, none⟩ xs.length cap _ 3 (xs.map (Value.int .i64)) undInts sizeInt1 hg (by rw [hcl]; exact (Nat.min_eq_left hx).symm) (srcW hc) (by rw [hcl, hml]; omega) (fun v hv => by obtain ⟨x, _, rfl⟩ := List.mem_map.1 hv; rfl)
    rw [hcl] at hrun
    obtain ⟨cs, hcs⟩ : ∃ cs, cs = (((madeCells #[Value.int .i64 0] n).toList.take 0 ++ xs.map (Value.int .i64) ++ (madeCells #[Value.int .i64 0] n).toList.drop (0 + xs.length)).toArray) := ⟨_, rfl⟩
    rw [← hcs] at hrun
    have hset := setRow_heap W g (madeCells #[.int .i64 0] n) cs 3 (0, 0) hg
    have hb2 := below_setRow hb hBg cs
    have hsz := (below_setRow (Below.refl 0 W) (Nat.zero_le g) cs).size
    generalize W.setRow g cs = W2 at hset hb2 hrun hsz
    refine ⟨W2, hrun, ⟨fun j hj => ?_, fun x => by simp [World.frozen?, hset]⟩, hb2, by omega⟩
    rw [Nat.zero_add]
    simp only [World.cell?, hset, hcs]
    simp only [List.take_zero, List.nil_append, Nat.zero_add, List.getElem?_toArray, Option.isSome_none, Bool.false_eq_true, if_false]
    rcases Nat.lt_or_ge j xs.length with h | h
    · rw [List.getElem?_append_left (by rw [hcl]; exact h), ovr_in (Nat.zero_le _) (by omega)]
      simp [h]
    · rw [List.getElem?_append_right (by rw [hcl]; exact h), ovr_ge (by omega), hcl, List.getElem?_drop, Array.getElem?_toList]
      rw [show xs.length + (j - xs.length) = j by omega]
      exact hzero j hj
/-! ### Copies -/
/-- A copy of texts, in a block of its own. -/
def CpT (w w' : World) (A : List ByteArray) (v : Value) : Prop := ∃ g c, v = .slice (some ⟨g, 0, none⟩) A.length c ∧ w'.ownsRow w.heap.size 9 1 (.slice (some ⟨g, 0, none⟩) A.length c) A.length (A.map Value.string)
set_option maxHeartbeats 2000000 in
set_option maxRecDepth 100000 in
theorem cloneT_any (b o cap : Nat) (A : List ByteArray) (w : World) (hr : Txt w b o A) (hA : A.length ≤ 1048576) :
    Calls Try.prog 70 #[.slice (some ⟨b, o, none⟩) A.length cap] w fun e w' => ∃ v, e = .returned v ∧ CpT w w' A v ∧ Below w.heap.size w w' := by
  obtain ⟨i0, hi, hz0, hz1, hz2⟩ := info_parts infoStr1
  have HI : Hid (Try.prog.info? 9 = some i0 ∧ i0.zero = some (.string ByteArray.empty) ∧ i0.size = 1 ∧ i0.bytes = 16) := ⟨hi, hz0, hz1, hz2⟩
  have HB1 : Hid (Below w.heap.size w (w.alloc (.cells #[] 9))) := (Below.refl _ _).alloc (Nat.le_refl _) _
  have HO : Hid ((w.alloc (.cells #[] 9)).ownsRow w.heap.size 9 1 (.slice (some ⟨w.heap.size, 0, none⟩) 0 0) 0 []) := World.ownsRow_made w #[] 0 (Nat.le_refl _) (Nat.zero_le _) rfl
  have HL : Hid ((A.map Value.string).length = A.length * 1) := by show _ = _; simp
  have HC : Hid (∀ j u, (A.map Value.string)[j]? = some u → (w.alloc (.cells #[] 9)).cell? ((⟨b, o, none⟩ : Addr).add j) = some u) := srcT (hr.below HB1.out)
  have C3 : Hid (0 + A.length ≤ maxLen) := by show _ ≤ _; unfold maxLen; omega
  have C4 : Hid ((0 + A.length) * 16 ≤ 140737488355328) := by show _ ≤ _; omega
  clear hr hi hz0 hz1 hz2 hA
  have hnil := fun (w : World) (a : Option Addr) (n c : Nat) => Go.Lib.run_eql_slice_nil (P := Try.prog) w 25 9 a n c 0 0 undStrs1
  go_enter Try.func70, Try.ntmps70
  go_wp2_with (at_builtin; refine wpList_append_own_at _ rfl _ _ 25 rfl w.heap.size 9 i0 (.string ByteArray.empty) 1 16 undStrs1 HI.out.1 HI.out.2.1 HI.out.2.2.1 HI.out.2.2.2 rfl Nat.zero_lt_one _ 0 [] rfl HO.out ⟨b, o, none⟩ A.length cap (A.map Value.string) rfl HL.out HC.out (oneT A) C3.out C4.out HB1.out.size ?_; intro v2 w2 hown2 hgr2 hnn2 hat2; have HB2 : Hid (Below w.heap.size w w2) := (HB1.out.grown hgr2 HB1.out.size (fun k hk => by have e : some w.heap.size = some k := hk; injection e with e; omega)); rw [Nat.zero_add, List.nil_append] at hown2; obtain ⟨g2, c2, rfl⟩ := ownForm hown2 (fun e => by have := (hnn2.1 e).1; cases this); have HO2 : Hid (w2.ownsRow w.heap.size 9 1 (.slice (some ⟨g2, 0, none⟩) A.length c2) A.length (A.map Value.string)) := hown2; clear hown2 hgr2 hnn2 hat2)
  go_ret
  exact ⟨_, rfl, ⟨g2, c2, rfl, HO2.out⟩, HB2.out⟩
/-- A copy of numbers. -/
def CpI (w w' : World) (hv : Value) (xs : List Int) (v : Value) : Prop := (hv = .slice none 0 0 ∧ v = .slice none 0 0 ∧ xs = []) ∨ ∃ g c, v = .slice (some ⟨g, 0, none⟩) xs.length c ∧ w'.ownsRow w.heap.size 3 1 (.slice (some ⟨g, 0, none⟩) xs.length c) xs.length (xs.map (Value.int .i64))
set_option maxHeartbeats 2000000 in
set_option maxRecDepth 100000 in
theorem cloneI_any (v : Value) (xs : List Int) (w : World) (hv : WV w w.heap.size v xs) (hA : xs.length ≤ 1048576) :
    Calls Try.prog 64 #[v] w fun e w' => ∃ u, e = .returned u ∧ CpI w w' v xs u ∧ Below w.heap.size w w' := by
  have hnil := fun (w : World) (a : Option Addr) (n c : Nat) => Go.Lib.run_eql_slice_nil (P := Try.prog) w 22 3 a n c 0 0 undInts
  rcases hv with ⟨rfl, rfl⟩ | ⟨b, cap, rfl, hlt, hr⟩
  · go_enter Try.func64, Try.ntmps64
    go_wp2_with fail
    go_ret
    exact ⟨_, rfl, .inl ⟨rfl, rfl, rfl⟩, Below.refl _ _⟩
  obtain ⟨i0, hi, hz0, hz1, hz2⟩ := infoParts infoInt
  have HI : Hid (Try.prog.info? 3 = some i0 ∧ i0.zero = some (.int .i64 0) ∧ i0.size = 1 ∧ i0.bytes = 8) := ⟨hi, hz0, hz1, hz2⟩
  have HB1 : Hid (Below w.heap.size w (w.alloc (.cells #[] 3))) := (Below.refl _ _).alloc (Nat.le_refl _) _
  have HO : Hid ((w.alloc (.cells #[] 3)).ownsRow w.heap.size 3 1 (.slice (some ⟨w.heap.size, 0, none⟩) 0 0) 0 []) := World.ownsRow_made w #[] 0 (Nat.le_refl _) (Nat.zero_le _) rfl
  have HL : Hid ((xs.map (Value.int .i64)).length = xs.length * 1) := by show _ = _; simp
  have HC : Hid (∀ j u, (xs.map (Value.int .i64))[j]? = some u → (w.alloc (.cells #[] 3)).cell? ((⟨b, 0, none⟩ : Addr).add j) = some u) := srcW fun j hj => by rw [HB1.out.cell (p := ⟨b, j, none⟩) hlt]; exact hr j hj
  have C3 : Hid (0 + xs.length ≤ maxLen) := by show _ ≤ _; unfold maxLen; omega
  have C4 : Hid ((0 + xs.length) * 8 ≤ 140737488355328) := by show _ ≤ _; omega
  have H1 : Hid (∀ u ∈ xs.map (Value.int .i64), u.oneCell' = true) := fun v hv => by obtain ⟨x, _, rfl⟩ := List.mem_map.1 hv; rfl
  clear hr hi hz0 hz1 hz2 hA
  go_enter Try.func64, Try.ntmps64
  go_wp2_with (at_builtin; refine wpList_append_own_at _ rfl _ _ 22 rfl w.heap.size 3 i0 (.int .i64 0) 1 8 undInts HI.out.1 HI.out.2.1 HI.out.2.2.1 HI.out.2.2.2 rfl Nat.zero_lt_one _ 0 [] rfl HO.out ⟨b, 0, none⟩ xs.length cap (xs.map (Value.int .i64)) rfl HL.out HC.out H1.out C3.out C4.out HB1.out.size ?_; intro v2 w2 hown2 hgr2 hnn2 hat2; have HB2 : Hid (Below w.heap.size w w2) := (HB1.out.grown hgr2 HB1.out.size (fun k hk => by have e : some w.heap.size = some k := hk; injection e with e; omega)); rw [Nat.zero_add, List.nil_append] at hown2; obtain ⟨g2, c2, rfl⟩ := ownForm hown2 (fun e => by have := (hnn2.1 e).1; cases this); have HO2 : Hid (w2.ownsRow w.heap.size 3 1 (.slice (some ⟨g2, 0, none⟩) xs.length c2) xs.length (xs.map (Value.int .i64))) := hown2; clear hown2 hgr2 hnn2 hat2)
  go_ret
  exact ⟨_, rfl, .inr ⟨g2, c2, rfl, HO2.out⟩, HB2.out⟩
/-! ### The putting itself -/
theorem pk_start (pb wb n base lo : Nat) (w : World) (c1 : Array Value) (t1 t2 t3 : TypeId) (hp : pb < w.heap.size) (hw : wb < w.heap.size) :
    PK ⟨pb, wb, n, base, lo, w.heap.size, w.heap.size + 1 + 1⟩ (((w.alloc (.cells #[.pointer (some ⟨pb, 0, none⟩)] t1)).alloc (.cells c1 t2)).alloc (.cells #[.func (.func 96) #[] #[.pointer (some ⟨w.heap.size, 0, none⟩), .pointer (some ⟨w.heap.size + 1 + 1, 0, none⟩)]] t3)) := by
  refine ⟨?_, ?_, ⟨by show w.heap.size ≠ pb; omega, by show w.heap.size ≠ wb; omega⟩, ⟨by show w.heap.size + 1 + 1 ≠ pb; omega, by show w.heap.size + 1 + 1 ≠ wb; omega⟩⟩
  · rw [World.cell?_alloc_past (hn := by simp only [World.size_alloc]; omega), World.cell?_alloc_past (hn := by simp only [World.size_alloc]; omega), World.cell?_alloc_at (hn := rfl)]; rfl
  · rw [World.cell?_alloc_at (hn := by simp only [World.size_alloc])]; rfl
set_option maxHeartbeats 2000000 in
set_option maxRecDepth 100000 in
theorem putTermI_any (pb wb n base lo : Nat) (t : Tm) (v : Value) (w : World) (f : Nat → Int) (next : Nat) (A : List ByteArray) (hp : ∀ pa qa, PP ⟨pb, wb, n, base, lo, pa, qa⟩ w f next A) (hv : RpV (fun b => b < lo) w t v) (hg : goodT t) (hx : next + ndT t ≤ n) (hb : base + n ≤ 3000000) (hA : A.length + nT t ≤ 1048577) :
    Calls Try.prog 72 #[.pointer (some ⟨pb, 0, none⟩), v] w fun e w' => ∃ pa qa, PAns ⟨pb, wb, n, base, lo, pa, qa⟩ w f next (ptT t (base + next) A) e w' := by
  have hmf : ∀ (fn : Fn) (first cap : Array Value) (w : World), (Instr.makeFunc fn first cap).run Try.prog w = .ok (.func fn first cap) w := fun _ _ _ _ => rfl
  obtain ⟨a1, a2, a3, a4, a5, a6, rfl⟩ := hv.form
  obtain ⟨Z, hZ⟩ : ∃ Z : PZp, Z = ⟨pb, wb, n, base, lo, w.heap.size, w.heap.size + 1 + 1⟩ := ⟨_, rfl⟩
  obtain ⟨W, hW⟩ : ∃ W, W = (((w.alloc (.cells #[.pointer (some ⟨pb, 0, none⟩)] 136)).alloc (.cells #[.int .i64 a1, .int .i64 a2, .string a3, .slice a4 a5 a6] 39)).alloc (.cells #[.func (.func 96) #[] #[.pointer (some ⟨w.heap.size, 0, none⟩), .pointer (some ⟨w.heap.size + 1 + 1, 0, none⟩)]] 71)) := ⟨_, rfl⟩
  have hp0 := hp w.heap.size (w.heap.size + 1 + 1)
  rw [← hZ] at hp0
  have hbW : Below w.heap.size w W := by rw [hW]; exact (((Below.refl _ _).alloc (Nat.le_refl _) _).alloc (by simp) _).alloc (by simp only [World.size_alloc]; omega) _
  have hk : PK Z W := by rw [hW, hZ]; exact pk_start _ _ _ _ _ _ _ _ _ _ (hp 0 0).pl (hp 0 0).sw
  have hlo : Z.lo ≤ Z.pb ∧ Z.lo ≤ Z.wb := ⟨hp0.lp, hp0.lw⟩
  have hlz : lo = Z.lo ∧ n = Z.n ∧ base = Z.base := by rw [hZ]; exact ⟨rfl, rfl, rfl⟩
  have HCL : Hid (Calls Try.prog 96 #[.agg #[.int .i64 a1, .int .i64 a2, .string a3, .slice a4 a5 a6], .pointer (some ⟨Z.pa, 0, none⟩), .pointer (some ⟨Z.qa, 0, none⟩)] W (PAns Z W f next (ptT t (Z.base + next) A))) := by
    rw [hlz.1] at hv
    rw [hlz.2.1] at hx hb
    rw [hlz.2.2] at hb
    exact putK_all Z t W f next A _ (hp0.below hbW) hk (((PF.below hbW).moves hlo.1 hlo.2).repV hv) hg hx hb hA
  have HBW : Hid (PF Z w W) := PF.below hbW
  rw [show base + next = Z.base + next by rw [← hlz.2.2]]
  have HZ : Hid (Z = ⟨pb, wb, n, base, lo, w.heap.size, w.heap.size + 1 + 1⟩) := hZ
  have hpa : Z.pa = w.heap.size := by rw [hZ]
  have hqa : Z.qa = w.heap.size + 1 + 1 := by rw [hZ]
  rw [hpa, hqa] at HCL
  have HBZ : Hid (base = Z.base) := hlz.2.2
  clear hp hv hg hx hb hA hp0 hbW hk hlo hlz hZ hpa hqa
  generalize ptT t (Z.base + next) A = r at HCL ⊢
  cases r with
  | none =>
    go_enter Try.func72, Try.ntmps72
    go_wp2_with (go_at_call 96; fail)
    rw [← hW]
    clear hW
    refine HCL.out.mono ?_
    rintro e w5 ⟨hf5, hr5⟩
    have he : e = .panicked PN := by
      rcases hr5 with ⟨_, _, _, e0, _⟩ | ⟨_, e0⟩
      · cases e0
      · exact e0
    subst he
    have HF5 : Hid (PF Z w w5) := HBW.out.trans hf5
    clear hf5 hr5
    go_wp2_with fail
    refine ⟨rfl, w.heap.size, w.heap.size + 1 + 1, ?_⟩
    rw [← HZ.out]
    exact ⟨HF5.out, .inr ⟨rfl, rfl⟩⟩
  | some r =>
    obtain ⟨ns, A', x⟩ := r
    go_enter Try.func72, Try.ntmps72
    go_wp2_with (go_at_call 96; fail)
    rw [← hW]
    clear hW
    refine HCL.out.mono ?_
    rintro e w5 ⟨hf5, hr5⟩
    obtain ⟨he, hp5⟩ : e = .returned (.int .i64 x) ∧ PP Z w5 (ovr f next ns) (next + ns.length) A' := by
      rcases hr5 with ⟨ns9, A9, x9, e0, e1, e2⟩ | ⟨e0, _⟩
      · simp only [Option.some.injEq, Prod.mk.injEq] at e0
        obtain ⟨rfl, rfl, rfl⟩ := e0
        exact ⟨e1, e2⟩
      · cases e0
    subst he
    have HF5 : Hid (PF Z w w5 ∧ PP Z w5 (ovr f next ns) (next + ns.length) A') := ⟨HBW.out.trans hf5, hp5⟩
    clear hf5 hr5 hp5
    go_wp2_with fail
    go_ret
    refine ⟨w.heap.size, w.heap.size + 1 + 1, ?_⟩
    rw [← HZ.out]
    exact ⟨HF5.out.1, .inl ⟨_, _, _, rfl, rfl, HF5.out.2⟩⟩
end Go.Proofs.Ytabgfaafpgholaa
