/-
  Putting, the program's: what it begins with.
  (Ahead of it, in this text: Putting, the program's: the copies that it makes, and what it begins with.)
-/
import Derived.Test.YtabgfaafpgholaaV2
import Derived.Laws.EntriesVeiled
import Derived.Test.YtabgfaafpgholaaV3
import Derived.Test.YtabgfaafpgholaaTmI
import Derived.Test.YtabgfaafpgholaaV4
import Derived.Test.YtabgfaafpgholaaV6
import Derived.Test.YtabgfaafpgholaaV7
namespace Go.Proofs.Ytabgfaafpgholaa
open Go.RowKit
set_option linter.unusedVariables false

theorem sizeInt1 : (Try.prog.info? 3).map (·.size) = some 1 := by kernel_rfl
theorem run_fillI (W W0 : World) (B g n cap : Nat) (hv : Option Addr) (xs : List Int) (hg : W.heap[g]? = some (.cells (madeCells #[.int .i64 0] n) 3 (0, 0))) (hsrc : xs ≠ [] → ∃ b, hv = some ⟨b, 0, none⟩ ∧ ∀ j (h : j < xs.length), W.cell? ⟨b, j, none⟩ = some (.int .i64 xs[j])) (hb : Below B W0 W) (hBg : B ≤ g) (hx : xs.length ≤ n) :
    ∃ W2, (Builtin.copy_ #[22, 22] 3 #[.slice (some ⟨g, 0, none⟩) n n, .slice hv xs.length cap]).run Try.prog W = .ok (.int .i64 (xs.length : Int)) W2 ∧
      Ints W2 g 0 n (ovr (fun _ => 0) 0 xs) ∧ Below B W0 W2 ∧ g < W2.heap.size := by
  have hgl : g < W.heap.size := by
    rcases Nat.lt_or_ge g W.heap.size with h | h
    · exact h
    · rw [Array.getElem?_eq_none h] at hg; cases hg
  have hml : (madeCells #[.int .i64 0] n).size = n := size_madeCells _ _
  have hcl : (xs.map (Value.int .i64)).length = xs.length := by simp
  have hzero : ∀ j, j < n → (madeCells #[Value.int .i64 0] n)[j]? = some (.int .i64 0) := fun j hj => by
    have h := World.rowIs_made W (.int .i64 0) n 3
    have h2 := h.cell hj
    rw [World.cell?_alloc_new] at h2
    exact h2
  by_cases h0 : xs = []
  · subst h0
    refine ⟨W, run_copy_none (P := Try.prog) W _ _ _ 3 _ _ _ _ _ _ undInts sizeInt1 (by simp), ⟨fun j hj => ?_, fun x => by simp [World.frozen?, hg]⟩, hb, hgl⟩
    rw [ovr_nil, Nat.zero_add]
    simp only [World.cell?, hg]
    exact hzero j hj
  · obtain ⟨b, rfl, hc⟩ := hsrc h0
    have hrun := run_copy_row (P := Try.prog) W 22 22 3 3 g 0 n n ⟨b, 0, none⟩ xs.length cap _ 3 (xs.map (Value.int .i64)) undInts sizeInt1 hg (by rw [hcl]; exact (Nat.min_eq_left hx).symm) (srcW hc) (by rw [hcl, hml]; omega) (fun v hv => by obtain ⟨x, _, rfl⟩ := List.mem_map.1 hv; rfl)
    rw [hcl] at hrun
    obtain ⟨cs, hcs⟩ : ∃ cs, cs = (((madeCells #[Value.int .i64 0] n).toList.take 0 ++ xs.map (Value.int .i64) ++ (madeCells #[Value.int .i64 0] n).toList.drop (0 + xs.length)).toArray) := ⟨_, rfl⟩
    rw [← hcs] at hrun
    have hset := setRow_heap W g (madeCells #[.int .i64 0] n) cs 3 (0, 0) hg
    have hb2 := below_setRow hb hBg cs
    have hsz := (below_setRow (Below.refl 0 W) (Nat.zero_le g) cs).size
    generalize W.setRow g cs = W2 at hset hb2 hrun hsz
    refine ⟨W2, hrun, ⟨fun j hj => ?_, fun x => by simp [World.frozen?, hset]⟩, hb2, by omega⟩
    rw [Nat.zero_add]
    simp only [World.cell?, hset, hcs]
    simp only [List.take_zero, List.nil_append, Nat.zero_add, List.getElem?_toArray, Option.isSome_none, Bool.false_eq_true, if_false]
    rcases Nat.lt_or_ge j xs.length with h | h
    · rw [List.getElem?_append_left (by rw [hcl]; exact h), ovr_in (Nat.zero_le _) (by omega)]
      simp [h]
    · rw [List.getElem?_append_right (by rw [hcl]; exact h), ovr_ge (by omega), hcl, List.getElem?_drop, Array.getElem?_toList]
      rw [show xs.length + (j - xs.length) = j by omega]
      exact hzero j hj
/-! ### Copies -/
/-- A copy of texts, in a block of its own. -/
def CpT (w w' : World) (A : List ByteArray) (v : Value) : Prop := ∃ g c, v = .slice (some ⟨g, 0, none⟩) A.length c ∧ w'.ownsRow w.heap.size 9 1 (.slice (some ⟨g, 0, none⟩) A.length c) A.length (A.map Value.string)
set_option maxHeartbeats 2000000 in
set_option maxRecDepth 100000 in
theorem cloneT_any (b o cap : Nat) (A : List ByteArray) (w : World) (hr : Txt w b o A) (hA : A.length ≤ 1048576) :
    Calls Try.prog 70 #[.slice (some ⟨b, o, none⟩) A.length cap] w fun e w' => ∃ v, e = .returned v ∧ CpT w w' A v ∧ Below w.heap.size w w' := by
  obtain ⟨i0, hi, hz0, hz1, hz2⟩ := info_parts infoStr1
  have HI : Hid (Try.prog.info? 9 = some i0 ∧ i0.zero = some (.string ByteArray.empty) ∧ i0.size = 1 ∧ i0.bytes = 16) := ⟨hi, hz0, hz1, hz2⟩
  have HB1 : Hid (Below w.heap.size w (w.alloc (.cells #[] 9))) := (Below.refl _ _).alloc (Nat.le_refl _) _
  have HO : Hid ((w.alloc (.cells #[] 9)).ownsRow w.heap.size 9 1 (.slice (some ⟨w.heap.size, 0, none⟩) 0 0) 0 []) := World.ownsRow_made w #[] 0 (Nat.le_refl _) (Nat.zero_le _) rfl
  have HL : Hid ((A.map Value.string).length = A.length * 1) := by show _ = _; simp
  have HC : Hid (∀ j u, (A.map Value.string)[j]? = some u → (w.alloc (.cells #[] 9)).cell? ((⟨b, o, none⟩ : Addr).add j) = some u) := srcT (hr.below HB1.out)
  have C3 : Hid (0 + A.length ≤ maxLen) := by show _ ≤ _; unfold maxLen; omega
  have C4 : Hid ((0 + A.length) * 16 ≤ 140737488355328) := by show _ ≤ _; omega
  clear hr hi hz0 hz1 hz2 hA
  have hnil := fun (w : World) (a : Option Addr) (n c : Nat) => Go.Lib.run_eql_slice_nil (P := Try.prog) w 25 9 a n c 0 0 undStrs1
  go_enter Try.func70, Try.ntmps70
  go_wp2_with (at_builtin; refine wpList_append_own_at _ rfl _ _ 25 rfl w.heap.size 9 i0 (.string ByteArray.empty) 1 16 undStrs1 HI.out.1 HI.out.2.1 HI.out.2.2.1 HI.out.2.2.2 rfl Nat.zero_lt_one _ 0 [] rfl HO.out ⟨b, o, none⟩ A.length cap (A.map Value.string) rfl HL.out HC.out (oneT A) C3.out C4.out HB1.out.size ?_; intro v2 w2 hown2 hgr2 hnn2 hat2; have HB2 : Hid (Below w.heap.size w w2) := (HB1.out.grown hgr2 HB1.out.size (fun k hk => by have e : some w.heap.size = some k := hk; injection e with e; omega)); rw [Nat.zero_add, List.nil_append] at hown2; obtain ⟨g2, c2, rfl⟩ := ownForm hown2 (fun e => by have := (hnn2.1 e).1; cases this); have HO2 : Hid (w2.ownsRow w.heap.size 9 1 (.slice (some ⟨g2, 0, none⟩) A.length c2) A.length (A.map Value.string)) := hown2; clear hown2 hgr2 hnn2 hat2)
  go_ret
  exact ⟨_, rfl, ⟨g2, c2, rfl, HO2.out⟩, HB2.out⟩
/-- A copy of numbers. -/
def CpI (w w' : World) (hv : Value) (xs : List Int) (v : Value) : Prop := (hv = .slice none 0 0 ∧ v = .slice none 0 0 ∧ xs = []) ∨ ∃ g c, v = .slice (some ⟨g, 0, none⟩) xs.length c ∧ w'.ownsRow w.heap.size 3 1 (.slice (some ⟨g, 0, none⟩) xs.length c) xs.length (xs.map (Value.int .i64))
set_option maxHeartbeats 2000000 in
set_option maxRecDepth 100000 in
theorem cloneI_any (v : Value) (xs : List Int) (w : World) (hv : WV w w.heap.size v xs) (hA : xs.length ≤ 1048576) :
    Calls Try.prog 64 #[v] w fun e w' => ∃ u, e = .returned u ∧ CpI w w' v xs u ∧ Below w.heap.size w w' := by
  have hnil := fun (w : World) (a : Option Addr) (n c : Nat) => Go.Lib.run_eql_slice_nil (P := Try.prog) w 22 3 a n c 0 0 undInts
  rcases hv with ⟨rfl, rfl⟩ | ⟨b, cap, rfl, hlt, hr⟩
  · go_enter Try.func64, Try.ntmps64
    go_wp2_with fail
    go_ret
    exact ⟨_, rfl, .inl ⟨rfl, rfl, rfl⟩, Below.refl _ _⟩
  obtain ⟨i0, hi, hz0, hz1, hz2⟩ := infoParts infoInt
  have HI : Hid (Try.prog.info? 3 = some i0 ∧ i0.zero = some (.int .i64 0) ∧ i0.size = 1 ∧ i0.bytes = 8) := ⟨hi, hz0, hz1, hz2⟩
  have HB1 : Hid (Below w.heap.size w (w.alloc (.cells #[] 3))) := (Below.refl _ _).alloc (Nat.le_refl _) _
  have HO : Hid ((w.alloc (.cells #[] 3)).ownsRow w.heap.size 3 1 (.slice (some ⟨w.heap.size, 0, none⟩) 0 0) 0 []) := World.ownsRow_made w #[] 0 (Nat.le_refl _) (Nat.zero_le _) rfl
  have HL : Hid ((xs.map (Value.int .i64)).length = xs.length * 1) := by show _ = _; simp
  have HC : Hid (∀ j u, (xs.map (Value.int .i64))[j]? = some u → (w.alloc (.cells #[] 3)).cell? ((⟨b, 0, none⟩ : Addr).add j) = some u) := srcW fun j hj => by rw [HB1.out.cell (p := ⟨b, j, none⟩) hlt]; exact hr j hj
  have C3 : Hid (0 + xs.length ≤ maxLen) := by show _ ≤ _; unfold maxLen; omega
  have C4 : Hid ((0 + xs.length) * 8 ≤ 140737488355328) := by show _ ≤ _; omega
  have H1 : Hid (∀ u ∈ xs.map (Value.int .i64), u.oneCell' = true) := fun v hv => by obtain ⟨x, _, rfl⟩ := List.mem_map.1 hv; rfl
  clear hr hi hz0 hz1 hz2 hA
  go_enter Try.func64, Try.ntmps64
  go_wp2_with (at_builtin; refine wpList_append_own_at _ rfl _ _ 22 rfl w.heap.size 3 i0 (.int .i64 0) 1 8 undInts HI.out.1 HI.out.2.1 HI.out.2.2.1 HI.out.2.2.2 rfl Nat.zero_lt_one _ 0 [] rfl HO.out ⟨b, 0, none⟩ xs.length cap (xs.map (Value.int .i64)) rfl HL.out HC.out H1.out C3.out C4.out HB1.out.size ?_; intro v2 w2 hown2 hgr2 hnn2 hat2; have HB2 : Hid (Below w.heap.size w w2) := (HB1.out.grown hgr2 HB1.out.size (fun k hk => by have e : some w.heap.size = some k := hk; injection e with e; omega)); rw [Nat.zero_add, List.nil_append] at hown2; obtain ⟨g2, c2, rfl⟩ := ownForm hown2 (fun e => by have := (hnn2.1 e).1; cases this); have HO2 : Hid (w2.ownsRow w.heap.size 3 1 (.slice (some ⟨g2, 0, none⟩) xs.length c2) xs.length (xs.map (Value.int .i64))) := hown2; clear hown2 hgr2 hnn2 hat2)
  go_ret
  exact ⟨_, rfl, .inr ⟨g2, c2, rfl, HO2.out⟩, HB2.out⟩
/-! ### The putting itself -/
theorem pk_start (pb wb n base lo : Nat) (w : World) (c1 : Array Value) (t1 t2 t3 : TypeId) (hp : pb < w.heap.size) (hw : wb < w.heap.size) :
    PK ⟨pb, wb, n, base, lo, w.heap.size, w.heap.size + 1 + 1⟩ (((w.alloc (.cells #[.pointer (some ⟨pb, 0, none⟩)] t1)).alloc (.cells c1 t2)).alloc (.cells #[.func (.func 96) #[] #[.pointer (some ⟨w.heap.size, 0, none⟩), .pointer (some ⟨w.heap.size + 1 + 1, 0, none⟩)]] t3)) := by
  refine ⟨?_, ?_, ⟨by show w.heap.size ≠ pb; omega, by show w.heap.size ≠ wb; omega⟩, ⟨by show w.heap.size + 1 + 1 ≠ pb; omega, by show w.heap.size + 1 + 1 ≠ wb; omega⟩⟩
  · rw [World.cell?_alloc_past (hn := by simp only [World.size_alloc]; omega), World.cell?_alloc_past (hn := by simp only [World.size_alloc]; omega), World.cell?_alloc_at (hn := rfl)]; rfl
  · rw [World.cell?_alloc_at (hn := by simp only [World.size_alloc])]; rfl
set_option maxHeartbeats 2000000 in
set_option maxRecDepth 100000 in
theorem putTermI_any (pb wb n base lo : Nat) (t : Tm) (v : Value) (w : World) (f : Nat → Int) (next : Nat) (A : List ByteArray) (hp : ∀ pa qa, PP ⟨pb, wb, n, base, lo, pa, qa⟩ w f next A) (hv : RpV (fun b => b < lo) w t v) (hg : goodT t) (hx : next + ndT t ≤ n) (hb : base + n ≤ 3000000) (hA : A.length + nT t ≤ 1048577) :
    Calls Try.prog 72 #[.pointer (some ⟨pb, 0, none⟩), v] w fun e w' => ∃ pa qa, PAns ⟨pb, wb, n, base, lo, pa, qa⟩ w f next (ptT t (base + next) A) e w' := by
  have hmf : ∀ (fn : Fn) (first cap : Array Value) (w : World), (Instr.makeFunc fn first cap).run Try.prog w = .ok (.func fn first cap) w := fun _ _ _ _ => rfl
  obtain ⟨a1, a2, a3, a4, a5, a6, rfl⟩ := hv.form
  obtain ⟨Z, hZ⟩ : ∃ Z : PZp, Z = ⟨pb, wb, n, base, lo, w.heap.size, w.heap.size + 1 + 1⟩ := ⟨_, rfl⟩
  obtain ⟨W, hW⟩ : ∃ W, W = (((w.alloc (.cells #[.pointer (some ⟨pb, 0, none⟩)] 136)).alloc (.cells #[.int .i64 a1, .int .i64 a2, .string a3, .slice a4 a5 a6] 39)).alloc (.cells #[.func (.func 96) #[] #[.pointer (some ⟨w.heap.size, 0, none⟩), .pointer (some ⟨w.heap.size + 1 + 1, 0, none⟩)]] 71)) := ⟨_, rfl⟩
  have hp0 := hp w.heap.size (w.heap.size + 1 + 1)
  rw [← hZ] at hp0
  have hbW : Below w.heap.size w W := by rw [hW]; exact (((Below.refl _ _).alloc (Nat.le_refl _) _).alloc (by simp) _).alloc (by simp only [World.size_alloc]; omega) _
  have hk : PK Z W := by rw [hW, hZ]; exact pk_start _ _ _ _ _ _ _ _ _ _ (hp 0 0).pl (hp 0 0).sw
  have hlo : Z.lo ≤ Z.pb ∧ Z.lo ≤ Z.wb := ⟨hp0.lp, hp0.lw⟩
  have hlz : lo = Z.lo ∧ n = Z.n ∧ base = Z.base := by rw [hZ]; exact ⟨rfl, rfl, rfl⟩
  have HCL : Hid (Calls Try.prog 96 #[.agg #[.int .i64 a1, .int .i64 a2, .string a3, .slice a4 a5 a6], .pointer (some ⟨Z.pa, 0, none⟩), .pointer (some ⟨Z.qa, 0, none⟩)] W (PAns Z W f next (ptT t (Z.base + next) A))) := by
    rw [hlz.1] at hv
    rw [hlz.2.1] at hx hb
    rw [hlz.2.2] at hb
    exact putK_all Z t W f next A _ (hp0.below hbW) hk (((PF.below hbW).moves hlo.1 hlo.2).repV hv) hg hx hb hA
  have HBW : Hid (PF Z w W) := PF.below hbW
  rw [show base + next = Z.base + next by rw [← hlz.2.2]]
  have HZ : Hid (Z = ⟨pb, wb, n, base, lo, w.heap.size, w.heap.size + 1 + 1⟩) := hZ
  have hpa : Z.pa = w.heap.size := by rw [hZ]
  have hqa : Z.qa = w.heap.size + 1 + 1 := by rw [hZ]
  rw [hpa, hqa] at HCL
  have HBZ : Hid (base = Z.base) := hlz.2.2
  clear hp hv hg hx hb hA hp0 hbW hk hlo hlz hZ hpa hqa
  generalize ptT t (Z.base + next) A = r at HCL ⊢
  cases r with
  | none =>
    go_enter Try.func72, Try.ntmps72
    go_wp2_with (go_at_call 96; fail)
    rw [← hW]
    clear hW
    refine HCL.out.mono ?_
    rintro e w5 ⟨hf5, hr5⟩
    have he : e = .panicked PN := by
      rcases hr5 with ⟨_, _, _, e0, _⟩ | ⟨_, e0⟩
      · cases e0
      · exact e0
    subst he
    have HF5 : Hid (PF Z w w5) := HBW.out.trans hf5
    clear hf5 hr5
    go_wp2_with fail
    refine ⟨rfl, w.heap.size, w.heap.size + 1 + 1, ?_⟩
    rw [← HZ.out]
    exact ⟨HF5.out, .inr ⟨rfl, rfl⟩⟩
  | some r =>
    obtain ⟨ns, A', x⟩ := r
    go_enter Try.func72, Try.ntmps72
    go_wp2_with (go_at_call 96; fail)
    rw [← hW]
    clear hW
    refine HCL.out.mono ?_
    rintro e w5 ⟨hf5, hr5⟩
    obtain ⟨he, hp5⟩ : e = .returned (.int .i64 x) ∧ PP Z w5 (ovr f next ns) (next + ns.length) A' := by
      rcases hr5 with ⟨ns9, A9, x9, e0, e1, e2⟩ | ⟨e0, _⟩
      · simp only [Option.some.injEq, Prod.mk.injEq] at e0
        obtain ⟨rfl, rfl, rfl⟩ := e0
        exact ⟨e1, e2⟩
      · cases e0
    subst he
    have HF5 : Hid (PF Z w w5 ∧ PP Z w5 (ovr f next ns) (next + ns.length) A') := ⟨HBW.out.trans hf5, hp5⟩
    clear hf5 hr5 hp5
    go_wp2_with fail
    go_ret
    refine ⟨w.heap.size, w.heap.size + 1 + 1, ?_⟩
    rw [← HZ.out]
    exact ⟨HF5.out.1, .inl ⟨_, _, _, rfl, rfl, HF5.out.2⟩⟩
end Go.Proofs.Ytabgfaafpgholaa
namespace Go.Proofs.Ytabgfaafpgholaa
open Go.RowKit
set_option linter.unusedVariables false

mutual
theorem nT_one : ∀ t : Tm, ntL [t] = nT t
  | .mk k n s l => by rw [ntL, nT, ntL_nL l]; simp [ntL]
theorem ntL_nL : ∀ l : List Tm, ntL l = nL l
  | [] => by rw [ntL, nL]
  | t :: r => by
    have h1 := nT_one t
    have h2 := ntL_nL r
    obtain ⟨k, n, s, l⟩ := t
    rw [ntL, ntL] at h1
    rw [ntL, nL]
    omega
end
/-- What putting is to answer. -/
def PtB (t : Tm) (xs : List Int) (base most : Nat) (A : List ByteArray) : Option (List Int × List ByteArray × Int) := if (look t 6 100).isSome = true ∧ xs.length + ndT t ≤ most then ptT t (base + xs.length) A else none
/-- Where words and atoms stand ahead of putting. -/
structure SP (w w' : World) (xs : List Int) (A : List ByteArray) (n g : Nat) (av : Value) : Prop where
  ws : Ints w' g 0 n (ovr (fun _ => 0) 0 xs)
  lo : w.heap.size ≤ g
  lt : g < w'.heap.size
  at' : ∃ ga c, av = .slice (some ⟨ga, 0, none⟩) A.length c ∧ w'.ownsRow (g + 1) 9 1 (.slice (some ⟨ga, 0, none⟩) A.length c) A.length (A.map Value.string)
  be : Below w.heap.size w w'
mutual
theorem rpT_size {w : World} : ∀ (t : Tm) (b o : Nat), RepT 0 w t b o → RpT (fun x => x < w.heap.size) w t b o
  | .mk k n s l, b, o, h => by
    rw [RepT] at h
    rw [RpT]
    obtain ⟨h0, h1, h2, hs, ao, cap, h3, hl, hc, hr⟩ := h
    exact ⟨h0, h1, h2, hs, ao, cap, h3, hl, hc, rpL_size l ao hr⟩
theorem rpL_size {w : World} : ∀ (l : List Tm) (ao : Option Addr), RepL 0 w l ao → RpL (fun x => x < w.heap.size) w l ao
  | [], _, _ => by rw [RpL]; trivial
  | t :: r, ao, h => by
    rw [RepL] at h
    rw [RpL]
    obtain ⟨b, off, e, _, ht, hr⟩ := h
    have h1 := rpT_size t b off ht
    obtain ⟨v, hv⟩ := h1.head
    exact ⟨b, off, e, World.block_lt_of_cell? w _ hv, h1, rpL_size r _ hr⟩
end
theorem OsV.size {w : World} {bs : List Nat} {t : Tm} {v : Value} (h : OsV w bs t v) : RpV (fun x => x < w.heap.size) w t v := by
  have h2 := h.rep
  obtain ⟨k, n, s, l⟩ := t
  obtain ⟨ao, cap, e, h3, h4, h5, h6⟩ := h2
  exact ⟨ao, cap, e, h3, h4, h5, rpL_size l ao h6⟩
theorem WV.behind {w w' : World} {v : Value} {xs : List Int} (h : WV w w.heap.size v xs) (hb : Below w.heap.size w w') : WV w' w'.heap.size v xs := by
  rcases h with h | ⟨b, c, e1, e2, e3⟩
  · exact .inl h
  · exact .inr ⟨b, c, e1, Nat.lt_of_lt_of_le e2 hb.size, fun j hj => by rw [hb.cell (p := ⟨b, j, none⟩) e2]; exact e3 j hj⟩
set_option maxHeartbeats 4000000 in
set_option maxRecDepth 100000 in
theorem startPut_any (w : World) (hp : Option Addr × Nat × Nat) (xs : List Int) (base most : Nat) (ab ao ac : Nat) (A : List ByteArray) (bs : List Nat) (t : Tm) (v : Value)
    (hW : WV w w.heap.size (.slice hp.1 hp.2.1 hp.2.2) xs) (hA : Txt w ab ao A) (hO : OsV w bs t v) (hnd : bs.Nodup) (hxl : xs.length ≤ 1048576) (hal : A.length ≤ 1048576) (hm : most ≤ 200000) :
    Calls Try.prog 71 #[.slice hp.1 hp.2.1 hp.2.2, .int .i64 (base : Int), .int .i64 (most : Int), .slice (some ⟨ab, ao, none⟩) A.length ac, v] w fun e w' =>
      (¬ ((look t 6 100).isSome = true ∧ xs.length + ndT t ≤ most) ∧ e = .panicked PN ∧ Below w.heap.size w w') ∨
      ((look t 6 100).isSome = true ∧ xs.length + ndT t ≤ most ∧ ∃ g av, e = .returned (.agg #[.slice (some ⟨g, 0, none⟩) (xs.length + ndT t) (xs.length + ndT t), .int .i64 (xs.length : Int), .int .i64 (base : Int), av]) ∧ SP w w' xs A (xs.length + ndT t) g av) := by
  obtain ⟨k, n, s, l⟩ := t
  obtain ⟨ax, cap, rfl, hs, hlc, hcm, hr⟩ := hO
  obtain ⟨p, q, r⟩ := hp
  have hq : q = xs.length := by
    rcases hW with ⟨e1, e2⟩ | ⟨b, c, e1, e2, e3⟩
    · injection e1 with _ e1; rw [e2]; exact e1
    · injection e1 with _ e1
  dsimp only at hW ⊢
  subst hq
  have HO : Hid (∀ w', Below w.heap.size w w' → OsV w' bs (.mk k n s l) (.agg #[.int .i64 k, .int .i64 n, .string s, .slice ax l.length cap])) := fun w' hb => OsV.below hb ⟨ax, cap, rfl, hs, hlc, hcm, hr⟩
  have HW : Hid (∀ w', Below w.heap.size w w' → WV w' w'.heap.size (.slice p xs.length r) xs) := fun w' hb => hW.behind hb
  have HA : Hid (∀ w', Below w.heap.size w w' → Txt w' ab ao A) := fun w' hb => hA.below hb
  obtain ⟨W, hWd⟩ : ∃ W, W = (w.alloc (.cells #[.int .i64 k, .int .i64 n, .string s, .slice ax l.length cap] 39)).alloc (.cells #[.slice none 0 0, .int .i64 0, .int .i64 0, .slice none 0 0] 103) := ⟨_, rfl⟩
  have HBW : Hid (Below w.heap.size w W) := by rw [hWd]; exact ((Below.refl _ _).alloc (Nat.le_refl _) _).alloc (by simp) _
  have q0 : ∀ o, W.cell? ⟨w.heap.size, o, none⟩ = (#[.int .i64 k, .int .i64 n, .string s, .slice ax l.length cap] : Array Value)[o]? := fun o => by rw [hWd, World.cell?_alloc_past (hn := by simp), World.cell?_alloc_at (hn := rfl)]
  have p0 : ∀ o, W.cell? ⟨w.heap.size + 1, o, none⟩ = (#[.slice none 0 0, .int .i64 0, .int .i64 0, .slice none 0 0] : Array Value)[o]? := fun o => by rw [hWd, World.cell?_alloc_at (hn := by simp)]
  have f0 : ∀ o, W.frozen? ⟨w.heap.size + 1, o, none⟩ = false := fun o => by rw [hWd, World.frozen?_alloc_at (hn := by simp)]
  have HQ : Hid (∀ w', Below W.heap.size W w' → (∀ o, w'.cell? ⟨w.heap.size, o, none⟩ = (#[.int .i64 k, .int .i64 n, .string s, .slice ax l.length cap] : Array Value)[o]?) ∧ (∀ o, w'.cell? ⟨w.heap.size + 1, o, none⟩ = (#[.slice none 0 0, .int .i64 0, .int .i64 0, .slice none 0 0] : Array Value)[o]?) ∧ (∀ o, w'.frozen? ⟨w.heap.size + 1, o, none⟩ = false)) := fun w' hb => by
    have hz : W.heap.size = w.heap.size + 1 + 1 := by rw [hWd]; simp
    exact ⟨fun o => by rw [hb.cell (p := ⟨w.heap.size, o, none⟩) (by show w.heap.size < _; omega)]; exact q0 o, fun o => by rw [hb.cell (p := ⟨w.heap.size + 1, o, none⟩) (by show w.heap.size + 1 < _; omega)]; exact p0 o, fun o => by rw [hb.frozen (p := ⟨w.heap.size + 1, o, none⟩) (by show w.heap.size + 1 < _; omega)]; exact f0 o⟩
  have HSZ : Hid (W.heap.size = w.heap.size + 1 + 1) := by show _ = _; rw [hWd]; simp
  have HX : Hid (xs.length ≤ 1048576 ∧ A.length ≤ 1048576 ∧ most ≤ 200000) := ⟨hxl, hal, hm⟩
  have HND : Hid (bs.Nodup) := hnd
  clear hW hA hnd hxl hal hm hs hlc hcm hr f0 p0 q0
  cases hlk : (look (.mk k n s l) 6 100).isSome with
  | false =>
    have HLK : Hid ((look (.mk k n s l) 6 100).isSome = false) := hlk
    clear hlk
    go_enter Try.func71, Try.ntmps71
    go_wp2_with (go_at_call 94; fail)
    rw [← hWd]
    clear hWd
    refine (implOk_any (.mk k n s l) 0 W _ (HO.out W HBW.out).rep).mono ?_
    rintro e w1 ⟨rfl, hb1⟩
    rw [HLK.out]
    have HB1 : Hid (Below w.heap.size w w1) := HBW.out.trans (hb1.mono HBW.out.size)
    clear hb1
    go_wp2_with (go_at_call 93; refine (insist_no _).mono ?_; rintro e w' ⟨rfl, hw'⟩; obtain rfl := hw'.symm)
    exact ⟨rfl, .inl ⟨(fun h => by cases h.1), rfl, HB1.out⟩⟩
  | true =>
    have HLK : Hid ((look (.mk k n s l) 6 100).isSome = true) := hlk
    obtain ⟨b1, b2, b3⟩ := look_b hlk
    have hone := nT_one (.mk k n s l)
    have HK : Hid (AllK (.mk k n s l) ∧ ndT (.mk k n s l) ≤ 1000000 ∧ ntL [.mk k n s l] ≤ 1000000) := ⟨goodK b1, by omega, by omega⟩
    obtain ⟨y, hy⟩ : ∃ y, y = ndT (.mk k n s l) := ⟨_, rfl⟩
    have HY : Hid (y = ndT (.mk k n s l)) := hy
    rw [← hy]
    obtain ⟨N, hN⟩ : ∃ N, N = xs.length + y := ⟨_, rfl⟩
    have HN : Hid (N = xs.length + y) := hN
    rw [← hN]
    have hxx := HX.out
    have e1 : IntKind.i64.wrap ((xs.length : Int) + (y : Int)) = (N : Int) := by rw [IntKind.wrap_i64]; omega
    clear hlk b1 b2 b3 hone hy hN
    by_cases hle : N ≤ most
    · have hli : (N : Int) ≤ (most : Int) := by omega
      have HNM : Hid (N ≤ 1048576) := by show _ ≤ _; omega
      have hmk := fun W => run_ints N HNM.out W
      clear hxx
      go_enter Try.func71, Try.ntmps71
      go_wp2_with (go_at_call 94; fail)
      rw [← hWd]
      clear hWd
      refine (implOk_any (.mk k n s l) 0 W _ (HO.out W HBW.out).rep).mono ?_
      rintro e w1 ⟨rfl, hb1⟩
      rw [HLK.out]
      have HB1 : Hid (Below W.heap.size W w1) := hb1
      obtain ⟨q1, _, _⟩ := HQ.out w1 hb1
      clear hb1
      have HFI : Hid (∀ wz, Below W.heap.size W wz → ∃ w3, (Builtin.copy_ #[22, 22] 3 #[.slice (some ⟨wz.heap.size, 0, none⟩) N N, .slice p xs.length r]).run Try.prog (wz.alloc (.cells (madeCells #[.int .i64 0] N) 3)) = .ok (.int .i64 (xs.length : Int)) w3 ∧ Ints w3 wz.heap.size 0 N (ovr (fun _ => 0) 0 xs) ∧ Below W.heap.size W w3 ∧ wz.heap.size < w3.heap.size) := fun wz hb => by
        have hbz : Below W.heap.size W (wz.alloc (.cells (madeCells #[.int .i64 0] N) 3)) := hb.alloc hb.size _
        refine run_fillI _ W W.heap.size wz.heap.size N r p xs (heap_alloc_new wz _) (fun hne => ?_) hbz hb.size (by have := HN.out; omega)
        rcases HW.out _ (HBW.out.trans (hbz.mono HBW.out.size)) with ⟨_, e2⟩ | ⟨b, c, e1, e2, e3⟩
        · exact absurd e2 hne
        · injection e1 with e1
          exact ⟨b, e1, e3⟩
      go_wp2_with (first
        | (go_at_call 93; refine (insist_yes _).mono ?_; rintro e w' ⟨rfl, hw'⟩; obtain rfl := hw'.symm)
        | (go_at_call 95; refine (implNeed_any k n s l ax cap bs w1 (HO.out w1 (HBW.out.trans (HB1.out.mono HBW.out.size))) HND.out HK.out.1 HK.out.2.1 HK.out.2.2).mono ?_; rintro e w2 ⟨rfl, hb2⟩; rw [← HY.out]; have HB2 : Hid (Below W.heap.size W w2) := HB1.out.trans (hb2.mono HB1.out.size); obtain ⟨w3, hcp, hin, hb3, hl3⟩ := HFI.out w2 HB2.out; have HI3 : Hid (Ints w3 w2.heap.size 0 N (ovr (fun _ => 0) 0 xs) ∧ Below W.heap.size W w3 ∧ w2.heap.size < w3.heap.size) := ⟨hin, hb3, hl3⟩; clear hb2 hin hb3 hl3)
        | (go_at_call 70; refine (cloneT_any ab ao ac A w3 (HA.out w3 (HBW.out.trans (HI3.out.2.1.mono HBW.out.size))) HX.out.2.1).mono ?_; rintro e w4 ⟨u, rfl, ⟨ga, ca, rfl, ho4⟩, hb4⟩; have HB4 : Hid (Below W.heap.size W w4) := HI3.out.2.1.trans (hb4.mono HI3.out.2.1.size); have HO4 : Hid (w4.ownsRow w3.heap.size 9 1 (.slice (some ⟨ga, 0, none⟩) A.length ca) A.length (A.map Value.string) ∧ Below w3.heap.size w3 w4) := ⟨ho4, hb4⟩; obtain ⟨_, q4, f4⟩ := HQ.out w4 HB4.out; clear ho4 hb4))
      have l1 := HB2.out.size
      have l2 := HBW.out.size
      have l3 := HI3.out.2.2
      have hz : W.heap.size = w.heap.size + 1 + 1 := HSZ.out
      have hbk : ∀ b, b ≠ w.heap.size + 1 → ((((w4.setCell ⟨w.heap.size + 1, 0, none⟩ (.slice (some ⟨w2.heap.size, 0, none⟩) N N)).setCell ⟨w.heap.size + 1, 1, none⟩ (.int .i64 (xs.length : Int))).setCell ⟨w.heap.size + 1, 2, none⟩ (.int .i64 (base : Int))).setCell ⟨w.heap.size + 1, 3, none⟩ (.slice (some ⟨ga, 0, none⟩) A.length ca)).heap[b]? = w4.heap[b]? := fun b hb => by
        rw [Below.heap_setCell _ _ _ _ (by show b ≠ w.heap.size + 1; omega), Below.heap_setCell _ _ _ _ (by show b ≠ w.heap.size + 1; omega), Below.heap_setCell _ _ _ _ (by show b ≠ w.heap.size + 1; omega), Below.heap_setCell _ _ _ _ (by show b ≠ w.heap.size + 1; omega)]
      have HFI : Hid (SP w ((((w4.setCell ⟨w.heap.size + 1, 0, none⟩ (.slice (some ⟨w2.heap.size, 0, none⟩) N N)).setCell ⟨w.heap.size + 1, 1, none⟩ (.int .i64 (xs.length : Int))).setCell ⟨w.heap.size + 1, 2, none⟩ (.int .i64 (base : Int))).setCell ⟨w.heap.size + 1, 3, none⟩ (.slice (some ⟨ga, 0, none⟩) A.length ca)) xs A N w2.heap.size (.slice (some ⟨ga, 0, none⟩) A.length ca)) := by
        have g1 := HO4.out.2
        have g2 := HO4.out.1
        refine ⟨⟨fun j hj => ?_, fun x => ?_⟩, by omega, ?_, ⟨ga, ca, rfl, ?_⟩, ?_⟩
        · rw [World.cell?_of_block (w := w4) (hbk w2.heap.size (by omega)), g1.cell (p := ⟨w2.heap.size, 0 + j, none⟩) l3]
          exact HI3.out.1.cell j hj
        · rw [World.frozen?_of_block (w := w4) (hbk w2.heap.size (by omega)), g1.frozen (p := ⟨w2.heap.size, x, none⟩) l3]
          exact HI3.out.1.free x
        · simp only [World.size_setCell]
          have := g1.size
          omega
        · have g3 := own_low (base' := w2.heap.size + 1) g2 (by omega)
          have g9 := (g2.lt ga rfl).1
          exact own_other (own_other (own_other (own_other g3 (by omega) _) (by omega) _) (by omega) _) (by omega) _
        · have g4 : Below w.heap.size w w4 := HBW.out.trans (HB4.out.mono HBW.out.size)
          exact (((g4.setCell (by show _ ≤ w.heap.size + 1; omega) _).setCell (by show _ ≤ w.heap.size + 1; omega) _).setCell (by show _ ≤ w.heap.size + 1; omega) _).setCell (by show _ ≤ w.heap.size + 1; omega) _
      refine bodyPost_ret (v := .agg #[.slice (some ⟨w2.heap.size, 0, none⟩) N N, .int .i64 (xs.length : Int), .int .i64 (base : Int), .slice (some ⟨ga, 0, none⟩) A.length ca]) (by simp [results, Try.results71, go_sem, q4]) rfl (.inr ⟨trivial, hle, w2.heap.size, _, rfl, HFI.out⟩)
    · have hli : ¬ (N : Int) ≤ (most : Int) := by omega
      clear hxx
      go_enter Try.func71, Try.ntmps71
      go_wp2_with (go_at_call 94; fail)
      rw [← hWd]
      clear hWd
      refine (implOk_any (.mk k n s l) 0 W _ (HO.out W HBW.out).rep).mono ?_
      rintro e w1 ⟨rfl, hb1⟩
      rw [HLK.out]
      have HB1 : Hid (Below W.heap.size W w1) := hb1
      obtain ⟨q1, _, _⟩ := HQ.out w1 hb1
      clear hb1
      go_wp2_with (first
        | (go_at_call 93; refine (insist_yes _).mono ?_; rintro e w' ⟨rfl, hw'⟩; obtain rfl := hw'.symm)
        | (go_at_call 93; refine (insist_no _).mono ?_; rintro e w' ⟨rfl, hw'⟩; obtain rfl := hw'.symm)
        | (go_at_call 95; refine (implNeed_any k n s l ax cap bs w1 (HO.out w1 (HBW.out.trans (HB1.out.mono HBW.out.size))) HND.out HK.out.1 HK.out.2.1 HK.out.2.2).mono ?_; rintro e w2 ⟨rfl, hb2⟩; rw [← HY.out]; have HB2 : Hid (Below W.heap.size W w2) := HB1.out.trans (hb2.mono HB1.out.size); clear hb2))
      exact ⟨rfl, .inl ⟨fun h => hle h.2, rfl, HBW.out.trans (HB2.out.mono HBW.out.size)⟩⟩
end Go.Proofs.Ytabgfaafpgholaa
