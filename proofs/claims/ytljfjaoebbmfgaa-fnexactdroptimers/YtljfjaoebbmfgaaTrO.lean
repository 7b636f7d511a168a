/-
  What the laws of timers have in hand while they are walked.
-/
import Derived.Test.YtljfjaoebbmfgaaTrM
import Derived.Test.YtljfjaoebbmfgaaTrN
import Derived.Test.YtljfjaoebbmfgaaTrD
import Derived.Test.YtljfjaoebbmfgaaTrC
import Derived.Test.YtljfjaoebbmfgaaTrB
namespace Go.Proofs.Ytljfjaoebbmfgaa.Tr
open Go.RowKit Atom
set_option linter.unusedVariables false

mutual
theorem cT_ntm : ∀ (k n : Int) (s : ByteArray) (l : List Tm), cT (.mk k n s l) = 3 + 3 * ntL l
  | k, n, s, l => by rw [cT, cL_ntm l]
theorem cL_ntm : ∀ (l : List Tm), cL l = 3 * ntL l
  | [] => by rw [cL, ntL]
  | .mk k n s l :: r => by rw [cL, ntL, cL_ntm r, cT_ntm k n s l]; omega
end
theorem cS_nt (x : Sd) : cS x + 1 = 3 * ntX x + 3 := by
  obtain ⟨a, p, t⟩ := x
  obtain ⟨k, n, s, l⟩ := t
  show 5 + cL l + 1 = 3 * ntL [.mk k n s l] + 3
  rw [cL_ntm, ntL, ntL]; omega
theorem ntX_pos (x : Sd) : 1 ≤ ntX x := by
  obtain ⟨a, p, t⟩ := x
  obtain ⟨k, n, s, l⟩ := t
  show 1 ≤ ntL [.mk k n s l]
  rw [ntL]; omega
theorem cG_nt : ∀ (l : List Sd), cG cS l ≤ 5 * ntXs l
  | [] => by rw [cG]; exact Nat.zero_le _
  | x :: r => by
    have h1 := cG_nt r
    have h2 := cS_nt x
    have h3 := ntX_pos x
    have h4 : ntXs (x :: r) = ntX x + ntXs r := by unfold ntXs; rw [List.map_cons, List.sum_cons]
    rw [cG, h4]; omega
theorem cG_parts (P : Sd → Bool) : ∀ (l : List Sd), cG cS (l.filter P) + cG cS (l.filter (notB P)) = cG cS l
  | [] => by simp [cG]
  | x :: r => by
    have h := cG_parts P r
    cases hp : P x
    · have hq : notB P x = true := by unfold notB; rw [hp]; rfl
      rw [List.filter_cons_of_neg (by rw [hp]; simp), List.filter_cons_of_pos hq, cG, cG]; omega
    · have hq : notB P x = false := by unfold notB; rw [hp]; rfl
      rw [List.filter_cons_of_pos hp, List.filter_cons_of_neg (by rw [hq]; simp), cG, cG]; omega
theorem nt_mem {l : List Sd} {x : Sd} (h : x ∈ l) : ntX x ≤ ntXs l := by
  induction l with
  | nil => cases h
  | cons a r ih =>
    have h4 : ntXs (a :: r) = ntX a + ntXs r := by unfold ntXs; rw [List.map_cons, List.sum_cons]
    rcases List.mem_cons.1 h with rfl | h
    · omega
    · have := ih h; omega
/-- The copy handed in and the two answers, apart from each other, and none of them where the specification's answer stands. -/
structure Ax (w2 wr : World) (lx : List Sd) (xo : Option Addr) (bx : List Nat) (n0 n1 : List Sd) (g0 g1 : Option Addr) (b0 b1 : List Nat) : Prop where
  below : Below w2.heap.size w2 wr
  x : GL eltS wr lx bx xo
  im0 : GL eltS wr n0 b0 g0
  im1 : GL eltS wr n1 b1 g1
  lo : ∀ b ∈ bx ++ (b0 ++ b1), w2.heap.size ≤ b
  nd : (bx ++ (b0 ++ b1)).Nodup
variable {w2 wr w' : World} {lx l' : List Sd} {xo : Option Addr} {bx : List Nat} {n0 n1 : List Sd} {g0 g1 : Option Addr} {b0 b1 : List Nat}
theorem Ax.call (h : Ax w2 wr lx xo bx n0 n1 g0 g1 b0 b1) (hb : Below wr.heap.size wr w') : Ax w2 w' lx xo bx n0 n1 g0 g1 b0 b1 :=
  ⟨h.below.trans (hb.mono h.below.size), h.x.below hb, h.im0.below hb, h.im1.below hb, h.lo, h.nd⟩
theorem out_below {B : Nat} {bs : List Nat} (h : Below B w2 wr) (hB : B = w2.heap.size) (ho : OutB bs wr w') (hl : ∀ b ∈ bs, B ≤ b) : Below B w2 w' :=
  ⟨ho.os.trans h.os, ho.tape.trans h.tape, ho.output.trans h.output, Nat.le_trans h.size ho.size, fun x hx => (ho.block x (Nat.lt_of_lt_of_le (by omega) h.size) (fun hm => by have := hl x hm; omega)).trans (h.block x hx)⟩
theorem Ax.markX (h : Ax w2 wr lx xo bx n0 n1 g0 g1 b0 b1) (hx : GL eltS w' l' bx xo) (ho : OutB bx wr w') : Ax w2 w' l' xo bx n0 n1 g0 g1 b0 b1 := by
  obtain ⟨n1', n2', n3'⟩ := List.nodup_append.1 h.nd
  exact ⟨out_below h.below rfl ho (fun b hb => h.lo b (by simp [hb])), hx, h.im0.keep (fun x hx hl => ho.block x hl (fun hm => n3' x hm x (by simp [hx]) rfl)), h.im1.keep (fun x hx hl => ho.block x hl (fun hm => n3' x hm x (by simp [hx]) rfl)), h.lo, h.nd⟩
theorem Ax.mark0 (h : Ax w2 wr lx xo bx n0 n1 g0 g1 b0 b1) (hx : GL eltS w' l' b0 g0) (ho : OutB b0 wr w') : Ax w2 w' lx xo bx l' n1 g0 g1 b0 b1 := by
  obtain ⟨n1', n2', n3'⟩ := List.nodup_append.1 h.nd
  obtain ⟨m1', m2', m3'⟩ := List.nodup_append.1 n2'
  exact ⟨out_below h.below rfl ho (fun b hb => h.lo b (by simp [hb])), h.x.keep (fun x hx hl => ho.block x hl (fun hm => n3' x hx x (by simp [hm]) rfl)), hx, h.im1.keep (fun x hx hl => ho.block x hl (fun hm => m3' x hm x hx rfl)), h.lo, h.nd⟩
theorem Ax.mark1 (h : Ax w2 wr lx xo bx n0 n1 g0 g1 b0 b1) (hx : GL eltS w' l' b1 g1) (ho : OutB b1 wr w') : Ax w2 w' lx xo bx n0 l' g0 g1 b0 b1 := by
  obtain ⟨n1', n2', n3'⟩ := List.nodup_append.1 h.nd
  obtain ⟨m1', m2', m3'⟩ := List.nodup_append.1 n2'
  exact ⟨out_below h.below rfl ho (fun b hb => h.lo b (by simp [hb])), h.x.keep (fun x hx hl => ho.block x hl (fun hm => n3' x hx x (by simp [hm]) rfl)), h.im0.keep (fun x hx hl => ho.block x hl (fun hm => m3' x hx x hm rfl)), hx, h.lo, h.nd⟩
end Go.Proofs.Ytljfjaoebbmfgaa.Tr
