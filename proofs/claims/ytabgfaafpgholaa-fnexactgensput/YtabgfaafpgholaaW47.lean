/-
  impl.PutTerm.
  (Ahead of it, in this text: Putting, the program's: putBehind.)
-/
import Derived.Test.YtabgfaafpgholaaW46
namespace Go.Proofs.Ytabgfaafpgholaa
open Go.RowKit
set_option linter.unusedVariables false

theorem fin4_four {w : World} {B : Nat} {z0 z1 z2 z3 : Value} (h : Four w B z0 z1 z2 z3) (a b c d : Value) : Four (fin4 w (B + 3) (B + 4) (B + 5) (B + 6) a b c d) B a b c d := by
  have ne : ∀ {x y : Nat}, x ≠ y → (⟨x, 0, none⟩ : Addr) ≠ ⟨y, 0, none⟩ := fun h e => h (by simp only [Addr.mk.injEq, and_true] at e; exact e)
  unfold fin4
  refine ⟨?_, ?_, ?_, ?_, by simp only [World.frozen?_setCell]; exact h.f0, by simp only [World.frozen?_setCell]; exact h.f1, by simp only [World.frozen?_setCell]; exact h.f2, by simp only [World.frozen?_setCell]; exact h.f3⟩
  · rw [World.cell?_setCell_other (h := ne (by omega)), World.cell?_setCell_other (h := ne (by omega)), World.cell?_setCell_other (h := ne (by omega))]
    exact World.cell?_setCell_same _ _ _ h.q0
  · rw [World.cell?_setCell_other (h := ne (by omega)), World.cell?_setCell_other (h := ne (by omega))]
    exact World.cell?_setCell_same _ _ _ (by rw [World.cell?_setCell_other (h := ne (by omega))]; exact h.q1)
  · rw [World.cell?_setCell_other (h := ne (by omega))]
    exact World.cell?_setCell_same _ _ _ (by rw [World.cell?_setCell_other (h := ne (by omega)), World.cell?_setCell_other (h := ne (by omega))]; exact h.q2)
  · exact World.cell?_setCell_same _ _ _ (by rw [World.cell?_setCell_other (h := ne (by omega)), World.cell?_setCell_other (h := ne (by omega)), World.cell?_setCell_other (h := ne (by omega))]; exact h.q3)
theorem Four.pf {Z : PZp} {w w' : World} {B : Nat} {a b c d : Value} (h : Four w B a b c d) (hf : PF Z w w') (h1 : B + 6 < Z.pb) (h2 : B + 6 < Z.wb) : Four w' B a b c d := by
  have kc : ∀ {b o : Nat} {v : Value}, b ≤ B + 6 → w.cell? ⟨b, o, none⟩ = some v → w'.cell? ⟨b, o, none⟩ = some v := fun hb hc => hf.cell (by omega) (by omega) hc
  have kf : ∀ {b o : Nat} {v : Value} {x : Bool}, b ≤ B + 6 → w.cell? ⟨b, o, none⟩ = some v → w.frozen? ⟨b, o, none⟩ = x → w'.frozen? ⟨b, o, none⟩ = x := fun {b o v x} hb hc hx => by
    have hl : b < w.heap.size := World.block_lt_of_cell? w _ hc
    rw [hf.frozen (b := b) (o := o) hl (by omega) (by omega)]; exact hx
  exact ⟨kc (by omega) h.q0, kc (by omega) h.q1, kc (by omega) h.q2, kc (by omega) h.q3, kf (by omega) h.q0 h.f0, kf (by omega) h.q1 h.f1, kf (by omega) h.q2 h.f2, kf (by omega) h.q3 h.f3⟩
/-- What is answered where all is put. -/
theorem put_end {h0 : Value} {Z : PZp} {w W w3 w4 : World} {xs ns : List Int} {A A' : List ByteArray} {t : Tm} {base most : Nat} {x : Int} {va : Value} (hb : Below w.heap.size w W) (hz : W.heap.size = w.heap.size + 7) (hlo : Z.lo = W.heap.size) (hn : Z.n = (xs ++ ns).length)
    (h3 : ∀ b, b < W.heap.size → w3.heap[b]? = W.heap[b]?) (k1 : w3.os = W.os) (k2 : w3.tape = W.tape) (k3 : w3.output = W.output) (k4 : W.heap.size ≤ w3.heap.size)
    (hp : PP Z w3 (ovr (ovr (fun _ => 0) 0 xs) xs.length ns) (xs.length + ns.length) A') (hv : w3.cell? ⟨Z.pb, 3, none⟩ = some va) (hR : PtB t xs base most A = some (ns, A', x))
    (h4 : ∀ k, k ≠ w.heap.size + 3 → k ≠ w.heap.size + 4 → k ≠ w.heap.size + 5 → k ≠ w.heap.size + 6 → w4.heap[k]? = w3.heap[k]?) (m1 : w4.os = w3.os) (m2 : w4.tape = w3.tape) (m3 : w4.output = w3.output) (m4 : w4.heap.size = w3.heap.size) :
    PBe w h0 xs A (PtB t xs base most A) (.returned (.tuple #[.slice (some ⟨Z.wb, 0, none⟩) Z.n Z.n, va, .int .i64 x, .bool true])) w4 := by
  obtain ⟨v, g1, ab, ac, rfl, g2, g3, g4, g5, g6, g7, g8, g9⟩ := hp.c3
  have e : va = .slice (some ⟨ab, 0, none⟩) A'.length ac := by rw [hv] at g1; injection g1
  subst e
  have lw := hp.lw
  have sw := hp.sw
  have hrow : rowF (xs ++ ns).length (ovr (ovr (fun _ => 0) 0 xs) xs.length ns) = xs ++ ns := by rw [List.length_append]; exact rowF_ovr xs ns _
  rw [hn]
  refine ⟨some ⟨Z.wb, 0, none⟩, (xs ++ ns).length, ab, ac, xs ++ ns, A', x, true, rfl, ⟨fun _ => ⟨Z.wb, rfl, by omega, by omega, fun e => g5 e.symm, ?_⟩, ?_, by omega, by omega, ?_⟩, .inl ⟨rfl, ns, hR, rfl⟩, fun _ => Nat.le_refl _⟩
  · have hk := h4 Z.wb (by omega) (by omega) (by omega) (by omega)
    refine Ints.heap ⟨fun j hj => ?_, hp.wf⟩ hk
    rw [Nat.zero_add, hp.ws j (by omega)]
    have h9 := lfI_row (xs ++ ns).length (ovr (ovr (fun _ => 0) 0 xs) xs.length ns) j hj
    rw [hrow] at h9
    rw [h9]
  · exact (txt_stsP g2 g3).heap (h4 ab (by omega) (by omega) (by omega) (by omega))
  · exact ⟨m1.trans (k1.trans hb.os), m2.trans (k2.trans hb.tape), m3.trans (k3.trans hb.output), by omega, fun b hb' => (h4 b (by omega) (by omega) (by omega) (by omega)).trans ((h3 b (by omega)).trans (hb.block b hb'))⟩
set_option maxHeartbeats 4000000 in
set_option maxRecDepth 100000 in
theorem putBehind_any (w : World) (hp : Option Addr × Nat × Nat) (xs : List Int) (base most : Nat) (ab ao ac : Nat) (A : List ByteArray) (bs : List Nat) (t : Tm) (v : Value)
    (hW : WV w w.heap.size (.slice hp.1 hp.2.1 hp.2.2) xs) (hA : Txt w ab ao A) (hO : OsV w bs t v) (hnd : bs.Nodup) (hxl : xs.length ≤ 1048576) (hal : A.length ≤ 1048576) (hm : most ≤ 200000) (hbm : base + most ≤ 3000000) (hat : (look t 6 100).isSome = true → A.length + nT t ≤ 1048577) (h0 : Value) (hh0 : h0 = .slice hp.1 hp.2.1 hp.2.2) :
    Calls Try.prog 45 #[.slice hp.1 hp.2.1 hp.2.2, .int .i64 (base : Int), .int .i64 (most : Int), .slice (some ⟨ab, ao, none⟩) A.length ac, v] w (PBe w h0 xs A (PtB t xs base most A)) := by
  have HH0 : Hid (h0 = Value.slice hp.1 hp.2.1 hp.2.2) := hh0
  clear hh0
  have hmf : ∀ (fn : Fn) (first cap : Array Value) (w : World), (Instr.makeFunc fn first cap).run Try.prog w = .ok (.func fn first cap) w := fun _ _ _ _ => rfl
  obtain ⟨a1, a2, a3, a4, a5, a6, rfl⟩ := hO.form
  obtain ⟨W, hWd⟩ : ∃ W, W = ((((((w.alloc (.cells #[.slice hp.1 hp.2.1 hp.2.2] 22)).alloc (.cells #[.slice (some ⟨ab, ao, none⟩) A.length ac] 25)).alloc (.cells #[.int .i64 a1, .int .i64 a2, .string a3, .slice a4 a5 a6] 39)).alloc (.cells #[.slice none 0 0] 22)).alloc (.cells #[.slice none 0 0] 25)).alloc (.cells #[.int .i64 0] 3)).alloc (.cells #[.bool false] 4) := ⟨_, rfl⟩
  obtain ⟨hz, hbW, c0, c1, c2, h4⟩ := seven w _ _ (.int .i64 0) _ _ _ _ _ _ _ _ W hWd
  have hOW := OsV.below hbW hO
  have HSP := startPut_any W hp xs base most ab ao ac A bs t _ (hW.behind hbW) (hA.below hbW) hOW hnd hxl hal hm
  have HZ : Hid (W.heap.size = w.heap.size + 7) := hz
  have HBW : Hid (Below w.heap.size w W) := hbW
  have HC : Hid (W.cell? ⟨w.heap.size, 0, none⟩ = some (.slice hp.1 hp.2.1 hp.2.2) ∧ W.cell? ⟨w.heap.size + 1, 0, none⟩ = some (.slice (some ⟨ab, ao, none⟩) A.length ac) ∧ Four W w.heap.size (.slice none 0 0) (.slice none 0 0) (.int .i64 0) (.bool false)) := ⟨c0, c1, h4⟩
  have HCT : Hid (∀ (w5 : World) (z0 z1 z2 z3 : Value), (∀ b, b < W.heap.size → b ≠ w.heap.size + 3 → b ≠ w.heap.size + 4 → b ≠ w.heap.size + 5 → b ≠ w.heap.size + 6 → w5.heap[b]? = W.heap[b]?) → w5.os = W.os → w5.tape = W.tape → w5.output = W.output → W.heap.size ≤ w5.heap.size → Four w5 w.heap.size z0 z1 z2 z3 →
      CallsD Try.prog 69 #[.pointer (some ⟨w.heap.size, 0, none⟩), .pointer (some ⟨w.heap.size + 1, 0, none⟩), .pointer (some ⟨w.heap.size + 3, 0, none⟩), .pointer (some ⟨w.heap.size + 4, 0, none⟩), .pointer (some ⟨w.heap.size + 5, 0, none⟩), .pointer (some ⟨w.heap.size + 6, 0, none⟩)] (.panicking PN) w5 fun e u' w' =>
        e = .returned (.tuple #[]) ∧ (∃ x, u' = .panicking [{ v := x, recovered := true }]) ∧ ∃ sa sn sc ta tn tc, Four w' w.heap.size (.slice sa sn sc) (.slice ta tn tc) (.int .i64 0) (.bool false) ∧ PBe w h0 xs A none (.returned (.tuple #[.slice sa sn sc, .slice ta tn tc, .int .i64 0, .bool false])) w') := fun w5 z0 z1 z2 z3 hk k1 k2 k3 k4 hf => by
    have hb5 : Below w.heap.size w w5 := ⟨k1.trans hbW.os, k2.trans hbW.tape, k3.trans hbW.output, by omega, fun b hb => (hk b (by omega) (by omega) (by omega) (by omega) (by omega)).trans (hbW.block b hb)⟩
    refine (catch_put w.heap.size hp xs ab ao ac A w5 [] _ _ z0 z1 z2 z3 hf (hW.behind hb5) (hA.below hb5) ?_ ?_ hxl hal).mono ?_
    · rw [World.cell?_of_block (w := W) (hk w.heap.size (by omega) (by omega) (by omega) (by omega) (by omega))]; exact c0
    · rw [World.cell?_of_block (w := W) (hk (w.heap.size + 1) (by omega) (by omega) (by omega) (by omega) (by omega))]; exact c1
    · rintro e u' w' ⟨rfl, rfl, w1, w2, hv, av, g1, g2, g3, g4, rfl⟩
      have h42 := (hf.below g2).below g4
      have hend := caught_end (h0 := h0) hb5 (Nat.le_refl _) (by omega) (by rw [HH0.out]; exact g1) g2 g3 g4
      obtain ⟨sa, sn, sc, rfl⟩ := g1.form
      obtain ⟨ta, tn, tc, rfl⟩ := g3.form
      exact ⟨rfl, ⟨_, rfl⟩, sa, sn, sc, ta, tn, tc, fin4_four h42 _ _ _ _, hend⟩
  have HPT : Hid ((look t 6 100).isSome = true ∧ xs.length + ndT t ≤ most → ∀ w1 g av, SP W w1 xs A (xs.length + ndT t) g av → Calls Try.prog 72 #[.pointer (some ⟨w1.heap.size, 0, none⟩), .agg #[.int .i64 a1, .int .i64 a2, .string a3, .slice a4 a5 a6]] (w1.alloc (.cells #[.slice (some ⟨g, 0, none⟩) (xs.length + ndT t) (xs.length + ndT t), .int .i64 (xs.length : Int), .int .i64 (base : Int), av] 103)) fun e w' => ∃ pa qa, PAns ⟨w1.heap.size, g, xs.length + ndT t, base, W.heap.size, pa, qa⟩ (w1.alloc (.cells #[.slice (some ⟨g, 0, none⟩) (xs.length + ndT t) (xs.length + ndT t), .int .i64 (xs.length : Int), .int .i64 (base : Int), av] 103)) (ovr (fun _ => 0) 0 xs) xs.length (ptT t (base + xs.length) A) e w') := fun hc w1 g av hs =>
    putTermI_any w1.heap.size g (xs.length + ndT t) base W.heap.size t _ _ _ xs.length A (fun pa qa => pp_start hs pa qa _) ((Moves.below (hs.be.alloc hs.be.size _)).repV (OsV.size hOW)) (look_b hc.1).1 (Nat.le_refl _) (by omega) (hat hc.1)
  obtain ⟨p, q, r⟩ := hp
  dsimp only at hW HSP HC hWd ⊢
  obtain ⟨c0, c1, q0, q1, q2, q3, f0, f1, f2, f3⟩ := HC.out
  by_cases hC : (look t 6 100).isSome = true ∧ xs.length + ndT t ≤ most
  · have HR : Hid (PtB t xs base most A = ptT t (base + xs.length) A) := if_pos hC
    have HGK : Hid (AllK t) := goodK (look_b hC.1).1
    obtain ⟨n, hn⟩ : ∃ n, n = xs.length + ndT t := ⟨_, rfl⟩
    rw [← hn] at HSP HPT
    have hCn : (look t 6 100).isSome = true ∧ n ≤ most := by rw [hn]; exact hC
    have HNN : Hid (n = xs.length + ndT t) := hn
    have HS : Hid (Calls Try.prog 71 #[.slice p q r, .int .i64 (base : Int), .int .i64 (most : Int), .slice (some ⟨ab, ao, none⟩) A.length ac, .agg #[.int .i64 a1, .int .i64 a2, .string a3, .slice a4 a5 a6]] W fun e w' => ∃ g sa sn sc, e = .returned (.agg #[.slice (some ⟨g, 0, none⟩) n n, .int .i64 (xs.length : Int), .int .i64 (base : Int), .slice sa sn sc]) ∧ SP W w' xs A n g (.slice sa sn sc)) := HSP.mono (fun e w' h => by
      rcases h with ⟨h1, _⟩ | ⟨_, _, g, av, h1, h2⟩
      · exact absurd hCn h1
      · obtain ⟨ga, cc, rfl, _⟩ := h2.at'
        exact ⟨g, _, _, _, h1, h2⟩)
    have HP2 := HPT.out hCn
    have HP : Hid (∀ w1 g av, SP W w1 xs A n g av → Calls Try.prog 72 #[.pointer (some ⟨w1.heap.size, 0, none⟩), .agg #[.int .i64 a1, .int .i64 a2, .string a3, .slice a4 a5 a6]] (w1.alloc (.cells #[.slice (some ⟨g, 0, none⟩) n n, .int .i64 (xs.length : Int), .int .i64 (base : Int), av] 103)) fun e w' => ∃ pa qa, PAns ⟨w1.heap.size, g, n, base, W.heap.size, pa, qa⟩ (w1.alloc (.cells #[.slice (some ⟨g, 0, none⟩) n n, .int .i64 (xs.length : Int), .int .i64 (base : Int), av] 103)) (ovr (fun _ => 0) 0 xs) xs.length (ptT t (base + xs.length) A) e w') := HP2
    clear HSP HPT HP2 hW hA hO hnd hxl hal hm hbm hat hbW c0 c1 h4 hOW q0 q1 q2 q3 f0 f1 f2 f3 hn hCn
    rw [HR.out]
    cases hq : ptT t (base + xs.length) A with
    | none =>
      rw [hq] at HP
      have HQ : Hid (PtB t xs base most A = none) := HR.out.trans hq
      clear hq hC
      go_enter_defers Try.func45, Try.ntmps45
      go_wp2_with (go_at_call 71; fail)
      rw [← hWd]
      clear hWd
      refine HS.out.mono ?_
      rintro e w1 ⟨g, sa, sn, sc, rfl, hsp⟩
      have HSQ : Hid (SP W w1 xs A n g (.slice sa sn sc)) := hsp
      have c29 : ∀ j, (w1.alloc (.cells #[.slice (some ⟨g, 0, none⟩) n n, .int .i64 (xs.length : Int), .int .i64 (base : Int), .slice sa sn sc] 103)).cell? ⟨w.heap.size + 1 + 1, j, none⟩ = (#[.int .i64 a1, .int .i64 a2, .string a3, .slice a4 a5 a6] : Array Value)[j]? := fun j => by
        have hz9 := HZ.out
        have hb9 : Below W.heap.size W (w1.alloc (.cells #[.slice (some ⟨g, 0, none⟩) n n, .int .i64 (xs.length : Int), .int .i64 (base : Int), .slice sa sn sc] 103)) := hsp.be.alloc hsp.be.size _
        rw [hb9.cell (p := ⟨w.heap.size + 1 + 1, j, none⟩) (by show w.heap.size + 1 + 1 < _; omega)]; exact c2 j
      clear hsp
      go_wp2_with (go_at_call 72; fail)
      refine (HP.out w1 g _ HSQ.out).mono ?_
      rintro e w3 ⟨pa, qa, hf3, hr3⟩
      have he : e = .panicked PN := by
        rcases hr3 with ⟨_, _, _, e0, _⟩ | ⟨_, e0⟩
        · cases e0
        · exact e0
      subst he
      have HF3 : Hid (PF ⟨w1.heap.size, g, n, base, W.heap.size, pa, qa⟩ (w1.alloc (.cells #[.slice (some ⟨g, 0, none⟩) n n, .int .i64 (xs.length : Int), .int .i64 (base : Int), .slice sa sn sc] 103)) w3) := hf3
      clear hf3 hr3 c29 c2
      go_wp2_with fail
      refine leaves_cons (f := 69) (args := #[.pointer (some ⟨w.heap.size, 0, none⟩), .pointer (some ⟨w.heap.size + 1, 0, none⟩), .pointer (some ⟨w.heap.size + 3, 0, none⟩), .pointer (some ⟨w.heap.size + 4, 0, none⟩), .pointer (some ⟨w.heap.size + 5, 0, none⟩), .pointer (some ⟨w.heap.size + 6, 0, none⟩)]) (by simp) (by simp [go_sem]) ?_
      have hbA : Below W.heap.size W (w1.alloc (.cells #[.slice (some ⟨g, 0, none⟩) n n, .int .i64 (xs.length : Int), .int .i64 (base : Int), .slice sa sn sc] 103)) := HSQ.out.be.alloc HSQ.out.be.size _
      have hg1 := HSQ.out.lo
      have hs1 := HSQ.out.be.size
      have hzz := HZ.out
      refine (HCT.out w3 _ _ _ _ (fun b hb _ _ _ _ => (HF3.out.block b (Nat.lt_of_lt_of_le hb hbA.size) (by show b ≠ w1.heap.size; omega) (by show b ≠ g; omega)).trans (hbA.block b hb)) (HF3.out.os.trans hbA.os) (HF3.out.tape.trans hbA.tape) (HF3.out.output.trans hbA.output) (Nat.le_trans hbA.size HF3.out.size) ((HC.out.2.2.below hbA).pf HF3.out (by show w.heap.size + 6 < w1.heap.size; omega) (by show w.heap.size + 6 < g; omega))).mono ?_
      rintro e u' w'' ⟨rfl, ⟨x, rfl⟩, sa', sn', sc', ta, tn, tc, ⟨x0, x1, x2, x3, _, _, _, _⟩, hend⟩
      simp only [settle, List.dropWhile, Leaves]
      exact ⟨.tuple #[.slice sa' sn' sc', .slice ta tn tc, .int .i64 0, .bool false], by simp [results, Try.results45, go_sem, x0, x1, x2, x3], hend⟩
    | some rr =>
      obtain ⟨ns, A', x⟩ := rr
      rw [hq] at HP
      have HQ : Hid (PtB t xs base most A = some (ns, A', x) ∧ ns.length = ndT t) := ⟨HR.out.trans hq, (ptT_len t _ A ns A' x HGK.out hq).1⟩
      clear hq hC
      go_enter_defers Try.func45, Try.ntmps45
      go_wp2_with (go_at_call 71; fail)
      rw [← hWd]
      clear hWd
      refine HS.out.mono ?_
      rintro e w1 ⟨g, sa, sn, sc, rfl, hsp⟩
      have HSQ : Hid (SP W w1 xs A n g (.slice sa sn sc)) := hsp
      have c29 : ∀ j, (w1.alloc (.cells #[.slice (some ⟨g, 0, none⟩) n n, .int .i64 (xs.length : Int), .int .i64 (base : Int), .slice sa sn sc] 103)).cell? ⟨w.heap.size + 1 + 1, j, none⟩ = (#[.int .i64 a1, .int .i64 a2, .string a3, .slice a4 a5 a6] : Array Value)[j]? := fun j => by
        have hz9 := HZ.out
        have hb9 : Below W.heap.size W (w1.alloc (.cells #[.slice (some ⟨g, 0, none⟩) n n, .int .i64 (xs.length : Int), .int .i64 (base : Int), .slice sa sn sc] 103)) := hsp.be.alloc hsp.be.size _
        rw [hb9.cell (p := ⟨w.heap.size + 1 + 1, j, none⟩) (by show w.heap.size + 1 + 1 < _; omega)]; exact c2 j
      clear hsp
      go_wp2_with (go_at_call 72; fail)
      refine (HP.out w1 g _ HSQ.out).mono ?_
      rintro e w3 ⟨pa, qa, hf3, hr3⟩
      obtain ⟨he, hp3⟩ : e = .returned (.int .i64 x) ∧ PP ⟨w1.heap.size, g, n, base, W.heap.size, pa, qa⟩ w3 (ovr (ovr (fun _ => 0) 0 xs) xs.length ns) (xs.length + ns.length) A' := by
        rcases hr3 with ⟨ns9, A9, x9, e0, e1, e2⟩ | ⟨e0, _⟩
        · simp only [Option.some.injEq, Prod.mk.injEq] at e0
          obtain ⟨rfl, rfl, rfl⟩ := e0
          exact ⟨e1, e2⟩
        · cases e0
      subst he
      have hbA : Below W.heap.size W (w1.alloc (.cells #[.slice (some ⟨g, 0, none⟩) n n, .int .i64 (xs.length : Int), .int .i64 (base : Int), .slice sa sn sc] 103)) := HSQ.out.be.alloc HSQ.out.be.size _
      have hg1 := HSQ.out.lo
      have hs1 := HSQ.out.be.size
      have hzz := HZ.out
      have HBA : Hid (Below W.heap.size W (w1.alloc (.cells #[.slice (some ⟨g, 0, none⟩) n n, .int .i64 (xs.length : Int), .int .i64 (base : Int), .slice sa sn sc] 103)) ∧ W.heap.size ≤ g ∧ W.heap.size ≤ w1.heap.size) := ⟨hbA, hg1, hs1⟩
      have hf4 := (HC.out.2.2.below hbA).pf hf3 (by show w.heap.size + 6 < w1.heap.size; omega) (by show w.heap.size + 6 < g; omega)
      have HF3 : Hid (PF ⟨w1.heap.size, g, n, base, W.heap.size, pa, qa⟩ (w1.alloc (.cells #[.slice (some ⟨g, 0, none⟩) n n, .int .i64 (xs.length : Int), .int .i64 (base : Int), .slice sa sn sc] 103)) w3) := hf3
      have HP3 : Hid (PP ⟨w1.heap.size, g, n, base, W.heap.size, pa, qa⟩ w3 (ovr (ovr (fun _ => 0) 0 xs) xs.length ns) (xs.length + ns.length) A') := hp3
      obtain ⟨va, hva, ab3, ac3, hve, _⟩ := hp3.c3
      subst hve
      have HVA : Hid (w3.cell? ⟨w1.heap.size, 3, none⟩ = some (.slice (some ⟨ab3, 0, none⟩) A'.length ac3)) := hva
      have hcw : w3.cell? ⟨w1.heap.size, 0, none⟩ = some (.slice (some ⟨g, 0, none⟩) n n) := hp3.c0
      have HNE : Hid (w1.heap.size ≠ w.heap.size + 5) := by show _ ≠ _; omega
      obtain ⟨x0, x1, x2, x3, y0, y1, y2, y3⟩ := hf4
      have x2' : w3.cell? ⟨w.heap.size + 1 + 1 + 1 + 1 + 1, 0, none⟩ = some (.int .i64 0) := x2
      have y2' : w3.frozen? ⟨w.heap.size + 1 + 1 + 1 + 1 + 1, 0, none⟩ = false := y2
      clear hbA hg1 hs1 hzz hf3 hr3 hp3 c29 c2 hz
      go_wp2_with fail
      obtain ⟨w5, hw5⟩ : ∃ w5, w5 = w3.setCell ⟨w.heap.size + 1 + 1 + 1 + 1 + 1, 0, none⟩ (.int .i64 x) := ⟨_, rfl⟩
      rw [← hw5]
      have hne5 : ∀ (k o : Nat), k ≠ w.heap.size + 5 → w5.cell? ⟨k, o, none⟩ = w3.cell? ⟨k, o, none⟩ := fun k o hk => by
        rw [hw5, World.cell?_setCell_other (h := fun e => by simp only [Addr.mk.injEq, and_true] at e; omega)]
      have u0 : w5.cell? ⟨w1.heap.size, 0, none⟩ = some (.slice (some ⟨g, 0, none⟩) n n) := by rw [hne5 _ _ HNE.out]; exact hcw
      have u3 : w5.cell? ⟨w1.heap.size, 3, none⟩ = some (.slice (some ⟨ab3, 0, none⟩) A'.length ac3) := by rw [hne5 _ _ HNE.out]; exact hva
      have v0 : w5.cell? ⟨w.heap.size + 1 + 1 + 1, 0, none⟩ = some (.slice none 0 0) := (hne5 _ _ (by omega)).trans x0
      have v1 : w5.cell? ⟨w.heap.size + 1 + 1 + 1 + 1, 0, none⟩ = some (.slice none 0 0) := (hne5 _ _ (by omega)).trans x1
      have v2 : w5.cell? ⟨w.heap.size + 1 + 1 + 1 + 1 + 1, 0, none⟩ = some (.int .i64 x) := by rw [hw5]; exact World.cell?_setCell_same _ _ _ x2'
      have v3 : w5.cell? ⟨w.heap.size + 1 + 1 + 1 + 1 + 1 + 1, 0, none⟩ = some (.bool false) := (hne5 _ _ (by omega)).trans x3
      have fz : ∀ a, w5.frozen? a = w3.frozen? a := fun a => by rw [hw5, World.frozen?_setCell]
      have g0 : w5.frozen? ⟨w.heap.size + 1 + 1 + 1, 0, none⟩ = false := (fz _).trans y0
      have g1 : w5.frozen? ⟨w.heap.size + 1 + 1 + 1 + 1, 0, none⟩ = false := (fz _).trans y1
      have g2 : w5.frozen? ⟨w.heap.size + 1 + 1 + 1 + 1 + 1, 0, none⟩ = false := (fz _).trans y2
      have g3 : w5.frozen? ⟨w.heap.size + 1 + 1 + 1 + 1 + 1 + 1, 0, none⟩ = false := (fz _).trans y3
      have HF5 : Hid (Four w5 w.heap.size (.slice none 0 0) (.slice none 0 0) (.int .i64 x) (.bool false)) := ⟨v0, v1, v2, v3, g0, g1, g2, g3⟩
      have HW5 : Hid (w5 = w3.setCell ⟨w.heap.size + 1 + 1 + 1 + 1 + 1, 0, none⟩ (.int .i64 x)) := hw5
      clear x0 x1 x2 x3 y0 y1 y2 y3 x2' y2' hne5 fz hw5 hcw hva
      have HFIN : Hid (PBe w h0 xs A (some (ns, A', x)) (.returned (.tuple #[.slice (some ⟨g, 0, none⟩) n n, .slice (some ⟨ab3, 0, none⟩) A'.length ac3, .int .i64 x, .bool true])) (((((w5.setCell ⟨w.heap.size + 1 + 1 + 1, 0, none⟩ (.slice (some ⟨g, 0, none⟩) n n)).setCell ⟨w.heap.size + 1 + 1 + 1 + 1, 0, none⟩ (.slice (some ⟨ab3, 0, none⟩) A'.length ac3)).setCell ⟨w.heap.size + 1 + 1 + 1 + 1 + 1, 0, none⟩ (.int .i64 x)).setCell ⟨w.heap.size + 1 + 1 + 1 + 1 + 1 + 1, 0, none⟩ (.bool true)).drew) ∧ Four (((((w5.setCell ⟨w.heap.size + 1 + 1 + 1, 0, none⟩ (.slice (some ⟨g, 0, none⟩) n n)).setCell ⟨w.heap.size + 1 + 1 + 1 + 1, 0, none⟩ (.slice (some ⟨ab3, 0, none⟩) A'.length ac3)).setCell ⟨w.heap.size + 1 + 1 + 1 + 1 + 1, 0, none⟩ (.int .i64 x)).setCell ⟨w.heap.size + 1 + 1 + 1 + 1 + 1 + 1, 0, none⟩ (.bool true))) w.heap.size (.slice (some ⟨g, 0, none⟩) n n) (.slice (some ⟨ab3, 0, none⟩) A'.length ac3) (.int .i64 x) (.bool true)) := by
        have hz9 := HZ.out
        obtain ⟨hb9, hg9, hs9⟩ := HBA.out
        have hnn := HNN.out
        have hq2 := HQ.out.2
        refine ⟨?_, fin4_four HF5.out _ _ _ _⟩
        rw [← HQ.out.1]
        refine put_end (Z := ⟨w1.heap.size, g, n, base, W.heap.size, pa, qa⟩) (w3 := w3) (ns := ns) HBW.out HZ.out rfl (by show n = _; rw [List.length_append]; omega) (fun b hb => (HF3.out.block b (Nat.lt_of_lt_of_le hb hb9.size) (by show b ≠ w1.heap.size; omega) (by show b ≠ g; omega)).trans (hb9.block b hb)) (HF3.out.os.trans hb9.os) (HF3.out.tape.trans hb9.tape) (HF3.out.output.trans hb9.output) (Nat.le_trans hb9.size HF3.out.size) HP3.out HVA.out HQ.out.1 (fun k k3 k4 k5 k6 => ?_) ?_ ?_ ?_ ?_
        · refine (fin4_heap w5 _ _ _ _ _ _ _ _ k k3 k4 k5 k6).trans ?_
          rw [HW5.out, Below.heap_setCell _ _ _ _ k5]
        · rw [HW5.out]; rfl
        · rw [HW5.out]; rfl
        · rw [HW5.out]; rfl
        · rw [HW5.out]
          show (World.drew _).heap.size = _
          simp
      refine wp_region_noPanic ?_
      go_region_law go_simp
      all_goals
        refine NoPanic.normal ?_
        go_wp2_with fail
        refine leaves_cons (f := 69) (args := #[.pointer (some ⟨w.heap.size, 0, none⟩), .pointer (some ⟨w.heap.size + 1, 0, none⟩), .pointer (some ⟨w.heap.size + 3, 0, none⟩), .pointer (some ⟨w.heap.size + 4, 0, none⟩), .pointer (some ⟨w.heap.size + 5, 0, none⟩), .pointer (some ⟨w.heap.size + 6, 0, none⟩)]) (by simp) (by simp [go_sem]) ?_
        refine (catch_idleP _ _ _ _ _ _ _).mono ?_
        rintro e u' w'' ⟨rfl, rfl, rfl⟩
        simp only [settle, Leaves]
        obtain ⟨hfin, z0, z1, z2, z3, _, _, _, _⟩ := HFIN.out
        exact ⟨.tuple #[.slice (some ⟨g, 0, none⟩) n n, .slice (some ⟨ab3, 0, none⟩) A'.length ac3, .int .i64 x, .bool true], by simp [results, Try.results45, go_sem, z0, z1, z2, z3], hfin⟩
  · have HR : Hid (PtB t xs base most A = none) := if_neg hC
    have HS : Hid (Calls Try.prog 71 #[.slice p q r, .int .i64 (base : Int), .int .i64 (most : Int), .slice (some ⟨ab, ao, none⟩) A.length ac, .agg #[.int .i64 a1, .int .i64 a2, .string a3, .slice a4 a5 a6]] W fun e w' => e = .panicked PN ∧ Below W.heap.size W w') := HSP.mono (fun e w' h => by
      rcases h with ⟨_, h1, h2⟩ | ⟨h1, h2, _⟩
      · exact ⟨h1, h2⟩
      · exact absurd ⟨h1, h2⟩ hC)
    clear HSP HPT hW hA hO hnd hxl hal hm hbm hat hz hbW c0 c1 c2 h4 hOW q0 q1 q2 q3 f0 f1 f2 f3
    go_enter_defers Try.func45, Try.ntmps45
    go_wp2_with (go_at_call 71; fail)
    rw [← hWd]
    clear hWd
    refine HS.out.mono ?_
    rintro e w1 ⟨rfl, hb1⟩
    have HB1 : Hid (Below W.heap.size W w1) := hb1
    clear hb1
    go_wp2_with fail
    refine leaves_cons (f := 69) (args := #[.pointer (some ⟨w.heap.size, 0, none⟩), .pointer (some ⟨w.heap.size + 1, 0, none⟩), .pointer (some ⟨w.heap.size + 3, 0, none⟩), .pointer (some ⟨w.heap.size + 4, 0, none⟩), .pointer (some ⟨w.heap.size + 5, 0, none⟩), .pointer (some ⟨w.heap.size + 6, 0, none⟩)]) (by simp) (by simp [go_sem]) ?_
    refine (HCT.out w1 _ _ _ _ (fun b hb _ _ _ _ => HB1.out.block b hb) HB1.out.os HB1.out.tape HB1.out.output HB1.out.size (HC.out.2.2.below HB1.out)).mono ?_
    rintro e u' w'' ⟨rfl, ⟨x, rfl⟩, sa, sn, sc, ta, tn, tc, ⟨x0, x1, x2, x3, _, _, _, _⟩, hend⟩
    simp only [settle, List.dropWhile, Leaves]
    refine ⟨.tuple #[.slice sa sn sc, .slice ta tn tc, .int .i64 0, .bool false], by simp [results, Try.results45, go_sem, x0, x1, x2, x3], ?_⟩
    rw [HR.out]
    exact hend
end Go.Proofs.Ytabgfaafpgholaa
namespace Go.Proofs.Ytabgfaafpgholaa
open Go.RowKit
set_option linter.unusedVariables false

theorem ptB_R (t : Tm) (xs : List Int) (A : List ByteArray) : PtB t xs 0 2000 A = PtR t xs A := by
  unfold PtB PtR
  rw [Nat.zero_add]
/-- What PutTerm answers. -/
def PIe (w : World) (h0 : Value) (xs : List Int) (A : List ByteArray) (R : Option (List Int × List ByteArray × Int)) (e : Ending) (w' : World) : Prop :=
  ∃ ao cap ga c ys B x ok, e = .returned (.tuple #[.agg #[.slice ao ys.length cap], .slice (some ⟨ga, 0, none⟩) B.length c, .int .i64 x, .bool ok]) ∧ PEnd w w' (hok ok h0) ao ys ga B ∧
    ((ok = true ∧ ∃ ns, R = some (ns, B, x) ∧ ys = xs ++ ns) ∨ (ok = false ∧ x = 0 ∧ ys = xs ∧ B = A ∧ R = none)) ∧ (ok = true → ys.length ≤ cap)
set_option maxHeartbeats 4000000 in
set_option maxRecDepth 100000 in
theorem implPut_any (w : World) (hp : Option Addr × Nat × Nat) (xs : List Int) (ab ao ac : Nat) (A : List ByteArray) (bs : List Nat) (t : Tm) (v : Value)
    (hW : WV w w.heap.size (.slice hp.1 hp.2.1 hp.2.2) xs) (hA : Txt w ab ao A) (hO : OsV w bs t v) (hnd : bs.Nodup) (hxl : xs.length ≤ 1048576) (hal : A.length ≤ 1048576) (hat : (look t 6 100).isSome = true → A.length + nT t ≤ 1048577) (h0 : Value) (hh0 : h0 = .slice hp.1 hp.2.1 hp.2.2) :
    Calls Try.prog 13 #[.agg #[.slice hp.1 hp.2.1 hp.2.2], .slice (some ⟨ab, ao, none⟩) A.length ac, v] w (PIe w h0 xs A (PtR t xs A)) := by
  obtain ⟨a1, a2, a3, a4, a5, a6, rfl⟩ := hO.form
  obtain ⟨W, hWd⟩ : ∃ W, W = ((w.alloc (.cells #[.slice hp.1 hp.2.1 hp.2.2] 32)).alloc (.cells #[.int .i64 a1, .int .i64 a2, .string a3, .slice a4 a5 a6] 39)).alloc (.cells #[.slice none 0 0] 32) := ⟨_, rfl⟩
  have hbW : Below w.heap.size w W := by rw [hWd]; exact (((Below.refl _ _).alloc (Nat.le_refl _) _).alloc (by simp) _).alloc (by simp only [World.size_alloc]; omega) _
  have hz : W.heap.size = w.heap.size + 3 := by rw [hWd]; simp
  have hc : W.cell? ⟨w.heap.size + 1 + 1, 0, none⟩ = some (.slice none 0 0) := by rw [hWd, World.cell?_alloc_at (hn := by simp)]; rfl
  have hf : W.frozen? ⟨w.heap.size + 1 + 1, 0, none⟩ = false := by rw [hWd, World.frozen?_alloc_at (hn := by simp)]
  have HPB : Hid (Calls Try.prog 45 #[.slice hp.1 hp.2.1 hp.2.2, .int .i64 0, .int .i64 2000, .slice (some ⟨ab, ao, none⟩) A.length ac, .agg #[.int .i64 a1, .int .i64 a2, .string a3, .slice a4 a5 a6]] W (PBe W h0 xs A (PtR t xs A))) := by
    have h := putBehind_any W hp xs 0 2000 ab ao ac A bs t _ (hW.behind hbW) (hA.below hbW) (OsV.below hbW hO) hnd hxl hal (by decide) (by decide) hat h0 hh0
    rw [ptB_R] at h
    exact h
  have HB : Hid (Below w.heap.size w W ∧ W.heap.size = w.heap.size + 3) := ⟨hbW, hz⟩
  have HC : Hid (W.cell? ⟨w.heap.size + 1 + 1, 0, none⟩ = some (.slice none 0 0) ∧ W.frozen? ⟨w.heap.size + 1 + 1, 0, none⟩ = false) := ⟨hc, hf⟩
  clear hW hA hO hnd hxl hal hat hh0 hbW hz hc hf
  go_enter Try.func13, Try.ntmps13
  go_wp2_with (go_at_call 45; fail)
  rw [← hWd]
  clear hWd
  refine HPB.out.mono ?_
  rintro e w1 ⟨so, cap, ga, c, ys, B, x, ok, rfl, hpe, hor, hcp⟩
  have hz9 := HB.out.2
  have c1 : w1.cell? ⟨w.heap.size + 1 + 1, 0, none⟩ = some (.slice none 0 0) := by rw [hpe.be.cell (p := ⟨w.heap.size + 1 + 1, 0, none⟩) (by show w.heap.size + 1 + 1 < _; omega)]; exact HC.out.1
  have f1 : w1.frozen? ⟨w.heap.size + 1 + 1, 0, none⟩ = false := by rw [hpe.be.frozen (p := ⟨w.heap.size + 1 + 1, 0, none⟩) (by show w.heap.size + 1 + 1 < _; omega)]; exact HC.out.2
  have HPE : Hid (PEnd W w1 (hok ok h0) so ys ga B) := hpe
  have HOR : Hid ((ok = true ∧ ∃ ns, PtR t xs A = some (ns, B, x) ∧ ys = xs ++ ns) ∨ (ok = false ∧ x = 0 ∧ ys = xs ∧ B = A ∧ PtR t xs A = none)) := hor
  have HCP : Hid (ok = true → ys.length ≤ cap) := hcp
  clear hpe hor hz9 hcp
  go_wp2_with fail
  have hfin : PIe w h0 xs A (PtR t xs A) (.returned (.tuple #[.agg #[.slice so ys.length cap], .slice (some ⟨ga, 0, none⟩) B.length c, .int .i64 x, .bool ok])) (w1.setCell ⟨w.heap.size + 1 + 1, 0, none⟩ (.slice so ys.length cap)) := by
    have hz9 := HB.out.2
    have hk : ∀ b, b ≠ w.heap.size + 1 + 1 → (w1.setCell ⟨w.heap.size + 1 + 1, 0, none⟩ (.slice so ys.length cap)).heap[b]? = w1.heap[b]? := fun b hb => Below.heap_setCell _ _ _ _ hb
    have hs : (w1.setCell ⟨w.heap.size + 1 + 1, 0, none⟩ (.slice so ys.length cap)).heap.size = w1.heap.size := World.size_setCell _ _ _
    have hal := HPE.out.al
    refine ⟨so, cap, ga, c, ys, B, x, ok, rfl, ⟨fun hne => ?_, HPE.out.ar.heap (hk ga (by omega)), by omega, by rw [hs]; exact HPE.out.at', (HB.out.1.trans (HPE.out.be.mono HB.out.1.size)).setCell (by show w.heap.size ≤ w.heap.size + 1 + 1; omega) _⟩, HOR.out, HCP.out⟩
    obtain ⟨g, e1, e2, e3, e4, e5⟩ := HPE.out.wr hne
    exact ⟨g, e1, by omega, by rw [hs]; exact e3, e4, e5.heap (hk g (by omega))⟩
  have hcell : (w1.setCell ⟨w.heap.size + 1 + 1, 0, none⟩ (.slice so ys.length cap)).cell? ⟨w.heap.size + 1 + 1, 0, none⟩ = some (.slice so ys.length cap) := World.cell?_setCell_same _ _ _ c1
  exact bodyPost_ret (v := .tuple #[.agg #[.slice so ys.length cap], .slice (some ⟨ga, 0, none⟩) B.length c, .int .i64 x, .bool ok]) (by simp [results, Try.results13, go_sem, hcell]) rfl hfin
end Go.Proofs.Ytabgfaafpgholaa
