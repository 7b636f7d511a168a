/-
  The law of a new system, walked.
  (Ahead of it, in this text: What the laws mark, and find marked, of an actor with no word that waits and no link; of a term. The law FnExactActorNew, walked. The law of a new system: what it has in hand.)
-/
import Derived.Test.YtjibnlpjpbileaaGreatDoorU10
import Derived.Test.YtjibnlpjpbileaaGreatDoorAcD
import Derived.Test.YtjibnlpjpbileaaGreatDoorU9
import Derived.Test.YtjibnlpjpbileaaGreatDoorTmD
import Derived.Test.YtjibnlpjpbileaaGreatDoorU11
import Derived.Test.YtjibnlpjpbileaaGreatDoorU3
import Derived.Deep.CutRange
import Derived.Deep.RegionHeld3
namespace Go.Proofs.YtjibnlpjpbileaaGreatDoor
open Go.RowKit
set_option linter.unusedVariables false

theorem markIntS_nil (K : Int) (w : World) : Calls Tryz.prog 80 #[.slice none 0 0, .int .i64 K] w fun e w' => e = .returned (.int .i64 K) ∧ w' = w := by
  go_enter Tryz.func80, Tryz.ntmps80
  go_wp2_with fail
  go_loopw [1, 5] (fun vk vi wr => vk = .int .i64 K ∧ vi = .int .i64 0 ∧ wr = w) (fun _ _ _ => 0)
  case atStart => exact ⟨rfl, rfl, rfl⟩
  case round =>
    obtain ⟨rfl, rfl, rfl⟩ := hrel
    go_wp2_with fail
    go_ret
    exact ⟨rfl, rfl⟩
theorem heldIntS_nil (K : Int) (w : World) : Calls Tryz.prog 82 #[.slice none 0 0, .int .i64 K] w fun e w' => e = .returned (.int .i64 K) ∧ w' = w := by
  go_enter Tryz.func82, Tryz.ntmps82
  go_wp2_with fail
  go_loopw [1, 5] (fun vk vi wr => vk = .int .i64 K ∧ vi = .int .i64 0 ∧ wr = w) (fun _ _ _ => 0)
  case atStart => exact ⟨rfl, rfl, rfl⟩
  case round =>
    obtain ⟨rfl, rfl, rfl⟩ := hrel
    go_wp2_with fail
    go_ret
    exact ⟨rfl, rfl⟩

set_option maxHeartbeats 1000000 in
theorem markTermB_any (k0 n0 : Int) (s0 : ByteArray) (l : List Tm) (ao : Option Addr) (cap : Nat) (bs : List Nat) (w : World) (h : OsL w l bs ao) (hnd : bs.Nodup) (hlc : l.length ≤ cap) (hcm : cap ≤ maxLen) (hc : 1 + cL l ≤ 8999990) :
    Calls Tryz.prog 16 #[.agg #[.int .i64 k0, .int .i64 n0, .string s0, .slice ao l.length cap], .int .i64 1] w fun e w' => e = .returned (.int .i64 ((1 + cL l : Nat) : Int)) ∧ OsL w' (mrL l 1) bs ao ∧ OutB bs w w' := by
  obtain ⟨W, hW⟩ : ∃ W, W = w.alloc (.cells #[.int .i64 k0, .int .i64 n0, .string s0, .slice ao l.length cap] 38) := ⟨_, rfl⟩
  have hb : Below w.heap.size w W := by rw [hW]; exact (Below.refl _ _).alloc (Nat.le_refl _) _
  have HC : Hid (Calls Tryz.prog 42 #[.slice ao l.length cap, .int .i64 1] W fun e w' => e = .returned (.int .i64 ((1 + cL l : Nat) : Int)) ∧ OsL w' (mrL l 1) bs ao ∧ OutB bs W w') := mkB_all l W bs ao cap 1 (OsL.below hb h) hnd hlc hcm (Nat.le_refl _) hc
  have HB : Hid (Below w.heap.size w W) := hb
  clear h hnd hlc hcm hc hb
  go_enter Tryz.func16, Tryz.ntmps16
  go_wp2_with (go_at_call 42; fail)
  rw [← hW]
  clear hW
  refine HC.out.mono ?_
  rintro e w1 ⟨rfl, h1, h2⟩
  have H1 : Hid (OsL w1 (mrL l 1) bs ao ∧ OutB bs W w1) := ⟨h1, h2⟩
  clear h1 h2
  generalize hK : ((1 + cL l : Nat) : Int) = K
  have HK : Hid (((1 + cL l : Nat) : Int) = K) := hK
  clear hK
  go_wp2_with fail
  go_ret
  exact ⟨ret_int HK.out.symm, H1.out.1, (OutB.below HB.out).trans H1.out.2⟩

end Go.Proofs.YtjibnlpjpbileaaGreatDoor
namespace Go.Proofs.YtjibnlpjpbileaaGreatDoor.fnExactActorNew
open Go.RowKit Atom
set_option linter.unusedVariables false

mutual
theorem cT_nt : ∀ (k n : Int) (s : ByteArray) (l : List Tm), cT (.mk k n s l) = 3 * (1 + ntL l)
  | k, n, s, l => by rw [cT, cL_nt l]; omega
theorem cL_nt : ∀ (l : List Tm), cL l = 3 * ntL l
  | [] => by rw [cL, ntL]
  | .mk k n s l :: r => by rw [cL, ntL, cL_nt r, cT_nt k n s l]; omega
end
theorem nt_seven : ntL seven = 7 := by
  unfold seven e0T
  simp [List.replicate, ntL]
def acN (pid pc : Int) (regs : List Tm) : Ac := ⟨pid, pc, regs, [], 0, fun _ => 0⟩
def whN (ra : Option Addr) (rc : Nat) : Wh := ⟨ra, rc, none, 0, none, 0⟩
theorem acr_of {w : World} {pid pc : Int} {regs : List Tm} {ra : Option Addr} {rc : Nat} (h : RepL 0 w regs ra) (h1 : regs.length ≤ rc) (h2 : rc ≤ maxLen) : AcR w (acN pid pc regs) (whN ra rc) :=
  ⟨h, by show RepL 0 w [] _; rw [RepL]; trivial, fun h => absurd rfl h, h1, h2, Nat.le_refl _, Nat.zero_le _, Nat.le_refl _, Nat.zero_le _⟩
theorem eqN {w : World} {pid pc : Int} {regs : List Tm} {ra rb : Option Addr} {rc rd : Nat} (h : RepL 0 w regs ra) (h1 : regs.length ≤ rc) (h2 : rc ≤ maxLen) (k : RepL 0 w regs rb) (k1 : regs.length ≤ rd) (k2 : rd ≤ maxLen) :
    Calls Tryz.prog 78 #[.agg #[.int .i64 pid, .int .i64 pc, .slice ra regs.length rc, .slice none 0 0, .slice none 0 0], .agg #[.int .i64 pid, .int .i64 pc, .slice rb regs.length rd, .slice none 0 0, .slice none 0 0]] w fun e w' => e = .returned (.bool true) ∧ Below w.heap.size w w' :=
  eqActor_same (acN pid pc regs) (whN ra rc) (whN rb rd) w (acr_of h h1 h2) (acr_of k k1 k2) (Nat.zero_le _)
theorem rp_keep {S : Nat → Prop} {w w' : World} {l : List Tm} {ao : Option Addr} (hk : ∀ b, S b → b < w.heap.size → w'.heap[b]? = w.heap[b]?) (h : RpL S w l ao) : RpL S w' l ao :=
  Moves.repL (fun b o v hb hv => ⟨hb, (World.cell?_of_block (w := w) (hk b hb (World.block_lt_of_cell? w _ hv))).trans hv⟩) _ _ h
theorem rp_up {S : Nat → Prop} {w : World} {l : List Tm} {ao : Option Addr} (h : RpL S w l ao) : RpL (fun b => S b ∧ b < w.heap.size) w l ao :=
  Moves.repL (fun b o v hb hv => ⟨⟨hb, World.block_lt_of_cell? w _ hv⟩, hv⟩) _ _ h

/-- The argument's box, and the specification's answer; all of it below M. -/
structure S1 (w wc : World) (c5 : Array Value) (B8 M : Nat) (c8 : Array Value) (regs : List Tm) (ra : Option Addr) : Prop where
  bel : Below w.heap.size w wc
  q5 : ∀ o, wc.cell? ⟨w.heap.size, o, none⟩ = c5[o]?
  q8 : ∀ o, wc.cell? ⟨B8, o, none⟩ = c8[o]?
  r8 : RpL (fun b => w.heap.size ≤ b ∧ b < M) wc regs ra
  l5 : w.heap.size < M
  l8 : B8 < M
  lM : M ≤ wc.heap.size
theorem S1.next {w wc w' : World} {c5 : Array Value} {B8 M : Nat} {c8 : Array Value} {regs : List Tm} {ra : Option Addr} (h : S1 w wc c5 B8 M c8 regs ra) (hb : Below wc.heap.size wc w') : S1 w w' c5 B8 M c8 regs ra := by
  have hM := h.lM
  have h5 := h.l5
  have h8 := h.l8
  exact ⟨h.bel.trans (hb.mono h.bel.size), fun o => by rw [hb.cell (p := ⟨w.heap.size, o, none⟩) (by show w.heap.size < _; omega)]; exact h.q5 o, fun o => by rw [hb.cell (p := ⟨B8, o, none⟩) (by show B8 < _; omega)]; exact h.q8 o, rp_keep (fun b _ hl => hb.block b hl) h.r8, h5, h8, Nat.le_trans hM hb.size⟩
theorem S1.out {w wc w' : World} {c5 : Array Value} {B8 M : Nat} {c8 : Array Value} {regs : List Tm} {ra : Option Addr} {bs : List Nat} (h : S1 w wc c5 B8 M c8 regs ra) (ho : OutB bs wc w') (hbs : ∀ b ∈ bs, M ≤ b) : S1 w w' c5 B8 M c8 regs ra := by
  have hM := h.lM
  have h5 := h.l5
  have h8 := h.l8
  have hz := h.bel.size
  have kk : ∀ b, b < M → w'.heap[b]? = wc.heap[b]? := fun b hb => ho.block b (by omega) (fun hm => by have := hbs b hm; omega)
  exact ⟨⟨ho.os.trans h.bel.os, ho.tape.trans h.bel.tape, ho.output.trans h.bel.output, Nat.le_trans h.bel.size ho.size, fun k hk => (kk k (by omega)).trans (h.bel.block k hk)⟩, fun o => (World.cell?_of_block (w := wc) (kk _ h5)).trans (h.q5 o), fun o => (World.cell?_of_block (w := wc) (kk _ h8)).trans (h.q8 o), rp_keep (fun b hb _ => kk b hb.2) h.r8, h5, h8, Nat.le_trans hM ho.size⟩
/-- A variable and a list in blocks of its own. -/
structure Xp (wc : World) (B : Nat) (c : Array Value) (l : List Tm) (bs : List Nat) (ao : Option Addr) : Prop where
  q : ∀ o, wc.cell? ⟨B, o, none⟩ = c[o]?
  lt : B < wc.heap.size
  os : OsL wc l bs ao
theorem Xp.next {wc w' : World} {B : Nat} {c : Array Value} {l : List Tm} {bs : List Nat} {ao : Option Addr} (h : Xp wc B c l bs ao) (hb : Below wc.heap.size wc w') : Xp w' B c l bs ao :=
  ⟨fun o => by rw [hb.cell (p := ⟨B, o, none⟩) h.lt]; exact h.q o, Nat.lt_of_lt_of_le h.lt hb.size, OsL.below hb h.os⟩
theorem Xp.out {wc w' : World} {B : Nat} {c : Array Value} {l : List Tm} {bs bs' : List Nat} {ao : Option Addr} (h : Xp wc B c l bs ao) (ho : OutB bs' wc w') (h1 : B ∉ bs') (h2 : ∀ b ∈ bs, b ∉ bs') : Xp w' B c l bs ao :=
  ⟨fun o => (World.cell?_of_block (w := wc) (ho.block B h.lt h1)).trans (h.q o), Nat.lt_of_lt_of_le h.lt ho.size, OsL.keep _ _ _ (fun b hb hl => ho.block b hl (h2 b hb)) h.os⟩
theorem Xp.mark {wc w' : World} {B : Nat} {c : Array Value} {l l' : List Tm} {bs : List Nat} {ao : Option Addr} (h : Xp wc B c l bs ao) (ho : OutB bs wc w') (h1 : B ∉ bs) (h2 : OsL w' l' bs ao) : Xp w' B c l' bs ao :=
  ⟨fun o => (World.cell?_of_block (w := wc) (ho.block B h.lt h1)).trans (h.q o), Nat.lt_of_lt_of_le h.lt ho.size, h2⟩
end Go.Proofs.YtjibnlpjpbileaaGreatDoor.fnExactActorNew
namespace Go.Proofs.YtjibnlpjpbileaaGreatDoor.fnExactPlainNew
open Go.RowKit Atom Go.Proofs.YtjibnlpjpbileaaGreatDoor
open Go.Proofs.YtjibnlpjpbileaaGreatDoor.Code
set_option linter.unusedVariables false

/-- A system in a variable, behind the world wb. -/
structure Wz (wb wx : World) (B : Nat) (c : Array Value) (p : Pl) (h : Pw) : Prop where
  be : Below wb.heap.size wb wx
  q : ∀ o, wx.cell? ⟨B, o, none⟩ = c[o]?
  lt : B < wx.heap.size
  r : PlR wx p h
theorem Wz.next {wb wx w' : World} {B : Nat} {c : Array Value} {p : Pl} {h : Pw} (x : Wz wb wx B c p h) (hb : Below wx.heap.size wx w') : Wz wb w' B c p h :=
  ⟨x.be.trans (hb.mono x.be.size), fun o => by rw [hb.cell (p := ⟨B, o, none⟩) x.lt]; exact x.q o, Nat.lt_of_lt_of_le x.lt hb.size, x.r.below hb⟩
theorem wz_last {wb wS : World} {lo : Nat} {c : Array Value} {T : TypeId} {p : Pl} {h : Pw} (be : Below wb.heap.size wb wS) (hk : PlK lo wS p h) : Wz wb (wS.alloc (.cells c T)) wS.heap.size c p h :=
  ⟨belA be _, fun o => World.cell?_alloc_new wS _ _ o, by simp, hk.self.below ((Below.refl _ _).alloc (Nat.le_refl _) _)⟩
theorem fourC {a b c d a' b' c' d' : Value} (j : Nat) (h : (0 ≠ j → a' = a) ∧ (1 ≠ j → b' = b) ∧ (2 ≠ j → c' = c) ∧ (3 ≠ j → d' = d)) : ∀ o, o ≠ j → (#[a', b', c', d'] : Array Value)[o]? = (#[a, b, c, d] : Array Value)[o]? := fun o ho => by
  obtain ⟨h0, h1, h2, h3⟩ := h
  match o, ho with
  | 0, ho => rw [h0 ho]; rfl
  | 1, ho => rw [h1 ho]; rfl
  | 2, ho => rw [h2 ho]; rfl
  | 3, ho => rw [h3 ho]; rfl
  | n + 4, _ => rw [Array.getElem?_eq_none (by simp), Array.getElem?_eq_none (by simp)]
theorem cells_setD {w : World} {g j : Nat} {c c' : Array Value} {v x : Value} (hc : ∀ o, w.cell? ⟨g, o, none⟩ = c[o]?) (hj : c[j]? = some x) (h1 : c'[j]? = some v) (h2 : ∀ o, o ≠ j → c'[o]? = c[o]?) : ∀ o, (w.setCell ⟨g, j, none⟩ v).cell? ⟨g, o, none⟩ = c'[o]? := fun o => by
  by_cases e : o = j
  · subst e
    rw [World.cell?_setCell_same w ⟨g, o, none⟩ v ((hc o).trans hj)]; exact h1.symm
  · rw [World.cell?_setCell_other (h := fun q => e (by simp only [Addr.mk.injEq] at q; omega)), hc o]; exact (h2 o e).symm
theorem ZP.all {w : World} {B : Nat} (h : ZP w B) : ∀ o, w.cell? ⟨B, o, none⟩ = (#[.slice none 0 0, .slice none 0 0, .int .i64 0, .slice none 0 0] : Array Value)[o]? := fun o => by
  unfold ZP at h
  simp [World.cell?, h]
theorem wz_set {wb wS : World} {lo B : Nat} {v0 v1 v2 v3 : Value} {p : Pl} {h : Pw} (be : Below wb.heap.size wb wS) (hlo : wb.heap.size ≤ B) (z : ZP wS B) (hk : PlK lo wS p h) (hB : B < lo) :
    Wz wb ((((wS.setCell ⟨B, 0, none⟩ v0).setCell ⟨B, 1, none⟩ v1).setCell ⟨B, 2, none⟩ v2).setCell ⟨B, 3, none⟩ v3) B #[v0, v1, v2, v3] p h := by
  have s0 := cells_setD (v := v0) (c' := #[v0, .slice none 0 0, .int .i64 0, .slice none 0 0]) (ZP.all z) (j := 0) rfl rfl (fourC 0 ⟨fun e => absurd rfl e, fun _ => rfl, fun _ => rfl, fun _ => rfl⟩)
  have s1 := cells_setD (v := v1) (c' := #[v0, v1, .int .i64 0, .slice none 0 0]) s0 (j := 1) rfl rfl (fourC 1 ⟨fun _ => rfl, fun e => absurd rfl e, fun _ => rfl, fun _ => rfl⟩)
  have s2 := cells_setD (v := v2) (c' := #[v0, v1, v2, .slice none 0 0]) s1 (j := 2) rfl rfl (fourC 2 ⟨fun _ => rfl, fun _ => rfl, fun e => absurd rfl e, fun _ => rfl⟩)
  have s3 := cells_setD (v := v3) (c' := #[v0, v1, v2, v3]) s2 (j := 3) rfl rfl (fourC 3 ⟨fun _ => rfl, fun _ => rfl, fun _ => rfl, fun e => absurd rfl e⟩)
  have ho : OutB [B] wS ((((wS.setCell ⟨B, 0, none⟩ v0).setCell ⟨B, 1, none⟩ v1).setCell ⟨B, 2, none⟩ v2).setCell ⟨B, 3, none⟩ v3) := ((((OutB.refl [B] wS).set (by simp) 0 _).set (by simp) 1 _).set (by simp) 2 _).set (by simp) 3 _
  exact ⟨belS (belS (belS (belS be hlo) hlo) hlo) hlo, s3, Nat.lt_of_lt_of_le z.lt ho.size, hk _ (fun b h1 h2 => ho.block b h2 (by simp; omega))⟩

/-- The program's answer in its variable, its lists in blocks of their own; all that stood in W6 stands. -/
structure Gx (W6 wc : World) (B : Nat) (c : Array Value) (p : Pl) (h : Pw) (b1 b2 b3 : List Nat) : Prop where
  t6 : Below W6.heap.size W6 wc
  q : ∀ o, wc.cell? ⟨B, o, none⟩ = c[o]?
  lt : B < wc.heap.size
  g : PlM wc p h b1 b2 b3
theorem plm_keep {w w' : World} {p : Pl} {h : Pw} {b1 b2 b3 : List Nat} (x : PlM w p h b1 b2 b3) (hk : ∀ b ∈ b1 ++ (b2 ++ b3), b < w.heap.size → w'.heap[b]? = w.heap[b]?) : PlM w' p h b1 b2 b3 :=
  ⟨x.code.keep (fun z hz => hk z (by simp [hz])), x.acts.keep (fun z hz => hk z (by simp [hz])), x.out.keep (fun z hz => hk z (by simp [hz]))⟩
theorem Gx.next {W6 wc w' : World} {B : Nat} {c : Array Value} {p : Pl} {h : Pw} {b1 b2 b3 : List Nat} (x : Gx W6 wc B c p h b1 b2 b3) (hb : Below wc.heap.size wc w') : Gx W6 w' B c p h b1 b2 b3 :=
  ⟨x.t6.trans (hb.mono x.t6.size), fun o => by rw [hb.cell (p := ⟨B, o, none⟩) x.lt]; exact x.q o, Nat.lt_of_lt_of_le x.lt hb.size, plm_keep x.g (fun b _ hl => hb.block b hl)⟩
theorem below_out {W6 wc w' : World} {bs : List Nat} (h : Below W6.heap.size W6 wc) (ho : OutB bs wc w') (hl : ∀ b ∈ bs, W6.heap.size ≤ b) : Below W6.heap.size W6 w' :=
  ⟨ho.os.trans h.os, ho.tape.trans h.tape, ho.output.trans h.output, Nat.le_trans h.size ho.size, fun x hx => (ho.block x (Nat.lt_of_lt_of_le hx h.size) (fun hm => by have := hl x hm; omega)).trans (h.block x hx)⟩
theorem Gx.out {W6 wc w' : World} {B : Nat} {c : Array Value} {p : Pl} {h : Pw} {b1 b2 b3 bs : List Nat} (x : Gx W6 wc B c p h b1 b2 b3) (ho : OutB bs wc w') (hl : ∀ b ∈ bs, W6.heap.size ≤ b) (hB : B ∉ bs) (hd : ∀ b ∈ b1 ++ (b2 ++ b3), b ∉ bs) : Gx W6 w' B c p h b1 b2 b3 :=
  ⟨below_out x.t6 ho hl, fun o => (World.cell?_of_block (w := wc) (ho.block B x.lt hB)).trans (x.q o), Nat.lt_of_lt_of_le x.lt ho.size, plm_keep x.g (fun b hb hlt => ho.block b hlt (hd b hb))⟩
theorem Gx.mark {W6 wc w' : World} {B : Nat} {c : Array Value} {p p' : Pl} {h : Pw} {b1 b2 b3 : List Nat} (x : Gx W6 wc B c p h b1 b2 b3) (ho : OutB (b1 ++ (b2 ++ b3)) wc w') (hl : ∀ b ∈ b1 ++ (b2 ++ b3), W6.heap.size ≤ b) (hB : B ∉ b1 ++ (b2 ++ b3)) (hm : PlM w' p' h b1 b2 b3) : Gx W6 w' B c p' h b1 b2 b3 :=
  ⟨below_out x.t6 ho hl, fun o => (World.cell?_of_block (w := wc) (ho.block B x.lt hB)).trans (x.q o), Nat.lt_of_lt_of_le x.lt ho.size, hm⟩
/-- The two copies that the program is given. -/
structure Cx (wc : World) (code : List I) (gx : Nat) (bx : List Nat) (B : Nat) (c : Array Value) (t : Tm) (v : Value) (l : List Tm) (bt : List Nat) (xa : Option Addr) : Prop where
  x0 : GL eltI wc code bx (some ⟨gx, 0, none⟩)
  q : ∀ o, wc.cell? ⟨B, o, none⟩ = c[o]?
  lt : B < wc.heap.size
  x1 : OsV wc bt t v
  xl : OsL wc l bt xa
theorem Cx.next {wc w' : World} {code : List I} {gx : Nat} {bx : List Nat} {B : Nat} {c : Array Value} {t : Tm} {v : Value} {l : List Tm} {bt : List Nat} {xa : Option Addr} (x : Cx wc code gx bx B c t v l bt xa) (hb : Below wc.heap.size wc w') : Cx w' code gx bx B c t v l bt xa :=
  ⟨x.x0.below hb, fun o => by rw [hb.cell (p := ⟨B, o, none⟩) x.lt]; exact x.q o, Nat.lt_of_lt_of_le x.lt hb.size, OsV.below hb x.x1, OsL.below hb x.xl⟩

set_option maxHeartbeats 1000000 in
theorem markTermK_any (k0 n0 : Int) (s0 : ByteArray) (l : List Tm) (ao : Option Addr) (cap : Nat) (bs : List Nat) (K : Nat) (w : World) (h : OsL w l bs ao) (hnd : bs.Nodup) (hlc : l.length ≤ cap) (hcm : cap ≤ maxLen) (hK1 : 1 ≤ K) (hc : K + cL l ≤ 8999990) :
    Calls Tryz.prog 16 #[.agg #[.int .i64 k0, .int .i64 n0, .string s0, .slice ao l.length cap], .int .i64 (K : Int)] w fun e w' => e = .returned (.int .i64 ((K + cL l : Nat) : Int)) ∧ OutB bs w w' := by
  obtain ⟨W, hW⟩ : ∃ W, W = w.alloc (.cells #[.int .i64 k0, .int .i64 n0, .string s0, .slice ao l.length cap] 38) := ⟨_, rfl⟩
  have hb : Below w.heap.size w W := by rw [hW]; exact (Below.refl _ _).alloc (Nat.le_refl _) _
  have HC : Hid (Calls Tryz.prog 42 #[.slice ao l.length cap, .int .i64 (K : Int)] W fun e w' => e = .returned (.int .i64 ((K + cL l : Nat) : Int)) ∧ OsL w' (mrL l K) bs ao ∧ OutB bs W w') := mkB_all l W bs ao cap K (OsL.below hb h) hnd hlc hcm hK1 hc
  have HB : Hid (Below w.heap.size w W) := hb
  clear h hnd hlc hcm hc hb hK1
  generalize (K : Int) = KI at *
  go_enter Tryz.func16, Tryz.ntmps16
  go_wp2_with (go_at_call 42; fail)
  rw [← hW]
  clear hW
  refine HC.out.mono ?_
  rintro e w1 ⟨rfl, h1, h2⟩
  have H1 : Hid (OutB bs W w1) := h2
  clear h1 h2
  generalize hK : ((K + cL l : Nat) : Int) = K'
  have HK : Hid (((K + cL l : Nat) : Int) = K') := hK
  clear hK
  go_wp2_with fail
  go_ret
  exact ⟨ret_int HK.out.symm, (OutB.below HB.out).trans H1.out⟩
end Go.Proofs.YtjibnlpjpbileaaGreatDoor.fnExactPlainNew
namespace Go.Proofs.YtjibnlpjpbileaaGreatDoor.fnExactPlainNew
open Go.RowKit Atom Go.Proofs.YtjibnlpjpbileaaGreatDoor
open Go.Proofs.YtjibnlpjpbileaaGreatDoor.Code
set_option linter.unusedVariables false

set_option maxHeartbeats 8000000 in
set_option maxRecDepth 100000 in
theorem walkNew (code : List I) (ai : Option Addr) (ci : Nat) (t : Tm) (v : Value) (w : World) (hri : RowI w ai code) (hsm0 : SmI maxLen code) (hlm : code.length ≤ maxLen) (hv : RepV 0 w t v) (hS : Shp w) (hP : Pow w) (hE : Es.Ety w) :
    Calls Tryz.prog 3 #[.slice ai code.length ci, v] w fun e w' => e = .returned (.bool true) ∧ Below w.heap.size w w' := by
  have hrep := hv
  obtain ⟨k, n, s, l⟩ := t
  obtain ⟨ao, cap, rfl, hs, hl, hc, hr⟩ := hv
  obtain ⟨t, ht⟩ : ∃ t, t = Tm.mk k n s l := ⟨_, rfl⟩
  rw [← ht] at hrep
  have HRI0 : Hid (∀ wc, Below w.heap.size w wc → RowI wc ai code) := fun wc hb => hri.below hb
  have HREP : Hid (∀ wc, Below w.heap.size w wc → RepV 0 wc t (.agg #[.int .i64 k, .int .i64 n, .string s, .slice ao l.length cap])) := fun wc hb => (Keeps.below hb 0).repV hrep
  obtain ⟨W0, hW0⟩ : ∃ W0, W0 = w.alloc (.cells #[.int .i64 k, .int .i64 n, .string s, .slice ao l.length cap] 25) := ⟨_, rfl⟩
  have hb0 : Below w.heap.size w W0 := by rw [hW0]; exact (Below.refl _ _).alloc (Nat.le_refl _) _
  have hz0 : W0.heap.size = w.heap.size + 1 := by rw [hW0]; simp
  have q0 : ∀ o, W0.cell? ⟨w.heap.size, o, none⟩ = (#[.int .i64 k, .int .i64 n, .string s, .slice ao l.length cap] : Array Value)[o]? := fun o => by rw [hW0, World.cell?_alloc_new]
  have HSI : Hid (Calls Tryz.prog 6 #[.slice ai code.length ci, .int .i64 1048576] W0 fun e w' => (∃ r : Int, e = .returned (.int .i64 r) ∧ (0 ≤ r → r ≤ 1048576 - (code.length : Int) ∧ code.length ≤ 1048576 ∧ SmI 1048576 code)) ∧ Below W0.heap.size W0 w') := szInsS_len code ai ci W0 (HRI0.out W0 hb0) hsm0 hlm
  have HSZ : Hid (∀ wc left, Below w.heap.size w wc → 0 ≤ left → left ≤ 1048576 → Calls Tryz.prog 7 #[.agg #[.int .i64 k, .int .i64 n, .string s, .slice ao l.length cap], .int .i64 left] wc fun e w' => e = .returned (.int .i64 (szT t left)) ∧ Below wc.heap.size wc w') := fun wc left hb h0 h1 => szT_all t 0 wc _ left (HREP.out wc hb) h0 h1
  have HB0 : Hid (Below w.heap.size w W0 ∧ W0.heap.size = w.heap.size + 1) := ⟨hb0, hz0⟩
  have HQ0 : Hid (∀ wc, Below W0.heap.size W0 wc → ∀ o, wc.cell? ⟨w.heap.size, o, none⟩ = (#[.int .i64 k, .int .i64 n, .string s, .slice ao l.length cap] : Array Value)[o]?) := fun wc hb o => by rw [hb.cell (p := ⟨w.heap.size, o, none⟩) (by show w.heap.size < _; omega)]; exact q0 o
  have HSM : Hid (∀ r : Int, 0 ≤ r → r ≤ 1048576 - (code.length : Int) → 0 ≤ szT t r → StS t ∧ code.length + ntL l ≤ 1048576 ∧ ntL [t] ≤ 4194304) := fun r h0 h1 h => by
    have h2 := sz_sts t r h0 (by omega) h
    have h3 : (ntL l : Int) ≤ r := szT_nt k n s l r h0 (by rw [← ht]; exact h)
    refine ⟨h2, by omega, ?_⟩
    rw [ht, ntL, ntL]; omega
  have HT : Hid (t = Tm.mk k n s l) := ht
  have HVAR : Hid (∀ wc, Below w.heap.size w wc → Shp wc ∧ Pow wc ∧ Es.Ety wc) := fun wc hb => ⟨hS.below hb, hP.below hb, hE.below hb⟩
  clear hrep hs hl hc hr hb0 hz0 q0 ht hri hsm0 hlm hS hP hE
  go_enter Tryz.func3, Tryz.ntmps3
  go_wp2_with (go_at_call 6; fail)
  rw [← hW0]
  clear hW0
  refine HSI.out.mono ?_
  rintro e w1 ⟨⟨r, rfl, hr1⟩, hb1⟩
  have HR1 : Hid (0 ≤ r → r ≤ 1048576 - (code.length : Int) ∧ code.length ≤ 1048576 ∧ SmI 1048576 code) := hr1
  have HB1 : Hid (Below W0.heap.size W0 w1) := hb1
  have HW1 : Hid (Below w.heap.size w w1) := belN HB0.out.1 hb1
  clear hb1 hr1
  by_cases hr0 : r < 0
  · go_wp2_with fail
    go_ret
    exact ⟨rfl, HW1.out⟩
  have HRC : Hid (0 ≤ r ∧ r ≤ 1048576 - (code.length : Int) ∧ code.length ≤ 1048576 ∧ SmI 1048576 code) := ⟨by omega, HR1.out (by omega)⟩
  have q1 := HQ0.out w1 HB1.out
  go_wp2_with (go_at_call 7; fail)
  clear q1
  refine (HSZ.out w1 r HW1.out HRC.out.1 (by have := HRC.out.2.1; omega)).mono ?_
  rintro e w2 ⟨rfl, hb2⟩
  have HB2 : Hid (Below W0.heap.size W0 w2) := belN HB1.out hb2
  have HW2 : Hid (Below w.heap.size w w2) := belN HW1.out hb2
  have HSR : Hid (0 ≤ szT t r → StS t ∧ code.length + ntL l ≤ 1048576 ∧ ntL [t] ≤ 4194304) := HSM.out r HRC.out.1 HRC.out.2.1
  clear hb2 HSM HSZ HSI HR1
  generalize szT t r = z at HSR
  by_cases hz : z < 0
  · go_wp2_with fail
    go_ret
    exact ⟨rfl, HW2.out⟩
  have HSS : Hid (StS t ∧ code.length + ntL l ≤ 1048576 ∧ ntL [t] ≤ 4194304) := HSR.out (by omega)
  have HLC : Hid (code.length ≤ 1048576 ∧ SmI 1048576 code) := HRC.out.2.2
  have HTI : Hid (∀ wc, Below w.heap.size w wc → Calls Tryz.prog 9 #[.slice ai code.length ci] wc fun e w' => ∃ g bs, e = .returned (.slice (some ⟨g, 0, none⟩) code.length code.length) ∧ GL eltI w' code bs (some ⟨g, 0, none⟩) ∧ bs.Nodup ∧ (∀ b ∈ bs, wc.heap.size ≤ b) ∧ Below wc.heap.size wc w') := fun wc hb => by
    refine (toInsSO_any code ai ci wc (HRI0.out wc hb) HLC.out.1).mono ?_
    rintro e w' ⟨⟨g, bs, h1, h2, h3, h4⟩, h5⟩
    exact ⟨g, bs, h1, h2, h3, h4, h5⟩
  have HTT : Hid (∀ wc, Below w.heap.size w wc → Calls Tryz.prog 10 #[.agg #[.int .i64 k, .int .i64 n, .string s, .slice ao l.length cap]] wc fun e w' => ∃ xa xc bs, e = .returned (.agg #[.int .i64 k, .int .i64 n, .string s, .slice xa l.length xc]) ∧ Below wc.heap.size wc w' ∧ OsV w' bs t (.agg #[.int .i64 k, .int .i64 n, .string s, .slice xa l.length xc]) ∧ OsL w' l bs xa ∧ l.length ≤ xc ∧ xc ≤ maxLen ∧ bs.Nodup ∧ ∀ b ∈ bs, wc.heap.size ≤ b) := fun wc hb => by
    refine (toOT_all t HSS.out.1 0 wc _ (HREP.out wc hb)).mono ?_
    rintro e w' ⟨v', bs, h1, h2, h3, h4, h5⟩
    have h6 := h3
    rw [HT.out] at h6
    obtain ⟨xa, xc, rfl, _, h7, h8, h9⟩ := h6
    exact ⟨xa, xc, bs, h1, h2, h3, h9, h7, h8, h4, h5⟩
  obtain ⟨P, hPe⟩ : ∃ P, aPl code t = P := ⟨_, rfl⟩
  obtain ⟨K, hK⟩ : ∃ K, plB (nPl code t) = K := ⟨_, rfl⟩
  have HPS : Hid (PlS P) := hPe ▸ aPl_S HLC.out.1 HLC.out.2 HSS.out.1
  have HCP : Hid (cP P ≤ 6300000) := by
    have := cP_new (code := code) (k := k) (n := n) (s := s) (l := l) HSS.out.2.1
    rw [← HT.out, hPe] at this
    exact this
  have HCX : Hid (1 + cG cI code + cL l ≤ 8999990) := by
    have h1 := HSS.out.2.1
    have h2 := cG_code code
    have h3 := cL_nt9 l
    show _ ≤ _
    omega
  have HSP0 : Hid (∀ wc gi v', RowI wc (some ⟨gi, 0, none⟩) code → RepV 0 wc t v' → Calls Tryz.prog 8 #[.slice (some ⟨gi, 0, none⟩) code.length code.length, v'] wc fun e w' => ∃ h, e = .returned (.tuple #[plV P h, .bool K]) ∧ PlK wc.heap.size w' P h ∧ Below wc.heap.size wc w') := fun wc gi v' h1 h2 => by
    rcases Nat.eq_zero_or_pos code.length with h0 | h0
    · have hn : code = [] := List.eq_nil_of_length_eq_zero h0
      have := specPlainNew_nil (some ⟨gi, 0, none⟩) 0 t v' wc h2 HSS.out.1 (nPl_S (by simp) (fun x hx => by cases hx) HSS.out.1)
      rw [← hPe, ← hK, hn]
      exact this
    · rcases h1 with h1 | ⟨b, o, e, h1⟩
      · rw [h1] at h0; cases h0
      · cases e
        have := specPlainNew_any code gi 0 code.length t v' wc h0 h1 HLC.out.1 HLC.out.2 h2 HSS.out.1 (nPl_S HLC.out.1 HLC.out.2 HSS.out.1)
        rw [← hPe, ← hK]
        exact this
  have HIM0 : Hid (∀ wc gi bi bt v', Below w.heap.size w wc → GL eltI wc code bi (some ⟨gi, 0, none⟩) → OsV wc bt t v' → bt.Nodup → Calls Tryz.prog 11 #[.slice (some ⟨gi, 0, none⟩) code.length code.length, v'] wc fun e w' => ∃ h bs', e = .returned (.tuple #[plV P h, .bool K]) ∧ PlO w' P h bs' ∧ bs'.Nodup ∧ (∀ b ∈ bs', wc.heap.size ≤ b) ∧ Below wc.heap.size wc w') := fun wc gi bi bt v' hb h1 h2 h3 => by
    rw [← hPe, ← hK]
    exact implPlainNew_any code _ _ t bt v' wc h1.rowI HLC.out.1 HLC.out.2 h2 h3 HSS.out.2.2 (nPl_S HLC.out.1 HLC.out.2 HSS.out.1) (HVAR.out wc hb).1 (HVAR.out wc hb).2.1 (HVAR.out wc hb).2.2
  clear hPe hK
  obtain ⟨pc, pa, pn, po⟩ := P
  have HSPK : Hid (∀ wc gi xt ct bi bt, Below w.heap.size w wc → GL eltI wc code bi (some ⟨gi, 0, none⟩) → OsV wc bt t (.agg #[.int .i64 k, .int .i64 n, .string s, .slice xt l.length ct]) → bt.Nodup → Calls Tryz.prog 8 #[.slice (some ⟨gi, 0, none⟩) code.length code.length, .agg #[.int .i64 k, .int .i64 n, .string s, .slice xt l.length ct]] wc fun e w' => ∃ (ca9 : Option Addr) (cc9 : Nat) (aa9 : Option Addr) (ac9 : Nat) (oa9 : Option Addr) (oc9 : Nat), e = .returned (.tuple #[.agg #[.slice ca9 pc.length cc9, .slice aa9 pa.length ac9, .int .i64 pn, .slice oa9 po.length oc9], .bool K]) ∧ PlK wc.heap.size w' ⟨pc, pa, pn, po⟩ ⟨ca9, cc9, aa9, ac9, oa9, oc9⟩ ∧ Below wc.heap.size wc w') := fun wc gi xt ct bi bt _ h1 h2 _ => by
    refine (HSP0.out wc gi _ h1.rowI h2.rep).mono ?_
    rintro e w' ⟨⟨r1, r2, r3, r4, r5, r6⟩, h3, h4, h5⟩
    exact ⟨r1, r2, r3, r4, r5, r6, h3, h4, h5⟩
  have HIMO : Hid (∀ wc gi xt ct bi bt, Below w.heap.size w wc → GL eltI wc code bi (some ⟨gi, 0, none⟩) → OsV wc bt t (.agg #[.int .i64 k, .int .i64 n, .string s, .slice xt l.length ct]) → bt.Nodup → Calls Tryz.prog 11 #[.slice (some ⟨gi, 0, none⟩) code.length code.length, .agg #[.int .i64 k, .int .i64 n, .string s, .slice xt l.length ct]] wc fun e w' => ∃ (ca9 : Option Addr) (cc9 : Nat) (aa9 : Option Addr) (ac9 : Nat) (oa9 : Option Addr) (oc9 : Nat) (bs' : List Nat), e = .returned (.tuple #[.agg #[.slice ca9 pc.length cc9, .slice aa9 pa.length ac9, .int .i64 pn, .slice oa9 po.length oc9], .bool K]) ∧ PlO w' ⟨pc, pa, pn, po⟩ ⟨ca9, cc9, aa9, ac9, oa9, oc9⟩ bs' ∧ bs'.Nodup ∧ (∀ b ∈ bs', wc.heap.size ≤ b) ∧ Below wc.heap.size wc w') := fun wc gi xt ct bi bt hb h1 h2 h3 => by
    refine (HIM0.out wc gi bi bt _ hb h1 h2 h3).mono ?_
    rintro e w' ⟨⟨r1, r2, r3, r4, r5, r6⟩, bs', h3, h4, h5, h6, h7⟩
    exact ⟨r1, r2, r3, r4, r5, r6, bs', h3, h4, h5, h6, h7⟩
  have HIMK : Hid (∀ wc gi xt ct bi bt, Below w.heap.size w wc → GL eltI wc code bi (some ⟨gi, 0, none⟩) → OsV wc bt t (.agg #[.int .i64 k, .int .i64 n, .string s, .slice xt l.length ct]) → bt.Nodup → Calls Tryz.prog 11 #[.slice (some ⟨gi, 0, none⟩) code.length code.length, .agg #[.int .i64 k, .int .i64 n, .string s, .slice xt l.length ct]] wc fun e w' => ∃ (ca9 : Option Addr) (cc9 : Nat) (aa9 : Option Addr) (ac9 : Nat) (oa9 : Option Addr) (oc9 : Nat), e = .returned (.tuple #[.agg #[.slice ca9 pc.length cc9, .slice aa9 pa.length ac9, .int .i64 pn, .slice oa9 po.length oc9], .bool K]) ∧ PlK wc.heap.size w' ⟨pc, pa, pn, po⟩ ⟨ca9, cc9, aa9, ac9, oa9, oc9⟩ ∧ Below wc.heap.size wc w') := fun wc gi xt ct bi bt hb h1 h2 h3 => by
    refine (HIMO.out wc gi xt ct bi bt hb h1 h2 h3).mono ?_
    rintro e w' ⟨ca9, cc9, aa9, ac9, oa9, oc9, bs', h3, h4, h5, h6, h7⟩
    exact ⟨ca9, cc9, aa9, ac9, oa9, oc9, h3, PlK.of_own h4 h6, h7⟩
  have HEQ : Hid (∀ wc (ca1 : Option Addr) (cc1 : Nat) (aa1 : Option Addr) (ac1 : Nat) (oa1 : Option Addr) (oc1 : Nat) (ca2 : Option Addr) (cc2 : Nat) (aa2 : Option Addr) (ac2 : Nat) (oa2 : Option Addr) (oc2 : Nat), PlR wc ⟨pc, pa, pn, po⟩ ⟨ca1, cc1, aa1, ac1, oa1, oc1⟩ → PlR wc ⟨pc, pa, pn, po⟩ ⟨ca2, cc2, aa2, ac2, oa2, oc2⟩ → Calls Tryz.prog 12 #[.agg #[.slice ca1 pc.length cc1, .slice aa1 pa.length ac1, .int .i64 pn, .slice oa1 po.length oc1], .agg #[.slice ca2 pc.length cc2, .slice aa2 pa.length ac2, .int .i64 pn, .slice oa2 po.length oc2]] wc fun e w' => e = .returned (.bool true) ∧ Below wc.heap.size wc w') := fun wc ca1 cc1 aa1 ac1 oa1 oc1 ca2 cc2 aa2 ac2 oa2 oc2 h1 h2 => eqPlain_same ⟨pc, pa, pn, po⟩ ⟨ca1, cc1, aa1, ac1, oa1, oc1⟩ ⟨ca2, cc2, aa2, ac2, oa2, oc2⟩ wc h1 h2 HPS.out
  clear HSP0 HIM0 HSR
  have q2 := HQ0.out w2 HB2.out
  have HQB : Hid (∀ wc, Below w2.heap.size w2 wc → wc.cell? ⟨w.heap.size, 0, none⟩ = some (.int .i64 k) ∧ wc.cell? ⟨w.heap.size, 1, none⟩ = some (.int .i64 n) ∧ wc.cell? ⟨w.heap.size, 2, none⟩ = some (.string s) ∧ wc.cell? ⟨w.heap.size, 3, none⟩ = some (.slice ao l.length cap)) := fun wc hb => by
    have hq := HQ0.out wc (belN HB2.out hb)
    exact ⟨hq 0, hq 1, hq 2, hq 3⟩
  go_wp2_with fail
  clear q2 hr0 hz
  obtain ⟨t0, t1, t2, t3⟩ := HQB.out w2 (Below.refl _ _)
  go_cut [6, 7] from 27 to 34 (fun v6 v7 wx => ∃ (B : Nat) (ca6 : Option Addr) (cc6 : Nat) (aa6 : Option Addr) (ac6 : Nat) (oa6 : Option Addr) (oc6 : Nat), v6 = .pointer (some ⟨B, 0, none⟩) ∧ v7 = .bool K ∧ Wz w2 wx B #[.slice ca6 pc.length cc6, .slice aa6 pa.length ac6, .int .i64 pn, .slice oa6 po.length oc6] ⟨pc, pa, pn, po⟩ ⟨ca6, cc6, aa6, ac6, oa6, oc6⟩)
  case first =>
    have S0 : w2.drew.cell? ⟨w.heap.size, 0, none⟩ = some (.int .i64 k) ∧ w2.drew.cell? ⟨w.heap.size, 1, none⟩ = some (.int .i64 n) ∧ w2.drew.cell? ⟨w.heap.size, 2, none⟩ = some (.string s) ∧ w2.drew.cell? ⟨w.heap.size, 3, none⟩ = some (.slice ao l.length cap) := HQB.out _ (Below.refl _ _).drew
    go_region_held3 (fun w' => w'.cell? ⟨w.heap.size, 0, none⟩ = some (.int .i64 k) ∧ w'.cell? ⟨w.heap.size, 1, none⟩ = some (.int .i64 n) ∧ w'.cell? ⟨w.heap.size, 2, none⟩ = some (.string s) ∧ w'.cell? ⟨w.heap.size, 3, none⟩ = some (.slice ao l.length cap)) (first | (refine HQB.out _ ?_; (repeat' first | with_reducible exact HkS.out | with_reducible exact HkT.out | with_reducible exact HkI.out | with_reducible exact Below.refl _ _ | with_reducible refine belA ?_ _ | with_reducible refine belD ?_ | with_reducible refine belS ?_ ?_ | with_reducible exact HkI.out.size | with_reducible exact HkT.out.size | with_reducible exact HkS.out.size | omega); done) | go_keep) (first
      | (go_at_call 9; refine (HTI.out _ ?_).mono ?_; (focus (repeat' first | with_reducible exact HbS.out | with_reducible exact HbT.out | with_reducible exact HbI.out | with_reducible exact HW2.out | with_reducible exact Below.refl _ _ | with_reducible refine belA ?_ _ | with_reducible refine belD ?_ | with_reducible refine belS ?_ ?_ | omega)); rintro e wI ⟨gi, bi, rfl, hgi, hni, hli, hbi⟩; refine (have HbI : Hid (Below w.heap.size w wI) := belN ?_ hbi; ?_); (focus (repeat' first | with_reducible exact HbS.out | with_reducible exact HbT.out | with_reducible exact HbI.out | with_reducible exact HW2.out | with_reducible exact Below.refl _ _ | with_reducible refine belA ?_ _ | with_reducible refine belD ?_ | with_reducible refine belS ?_ ?_ | omega)); refine (have HkI : Hid (Below w2.heap.size w2 wI) := belN ?_ hbi; ?_); (focus (repeat' first | with_reducible exact HkS.out | with_reducible exact HkT.out | with_reducible exact HkI.out | with_reducible exact Below.refl _ _ | with_reducible refine belA ?_ _ | with_reducible refine belD ?_ | with_reducible refine belS ?_ ?_ | omega)); have HRI : Hid (GL eltI wI code bi (some ⟨gi, 0, none⟩)) := hgi; (try (refine (have zI : ZP wI w2.heap.size := ZP.below ?_ hbi; ?_); (focus ((try with_reducible refine ZP.drew ?_); refine ZP.new ?_; (simp; done))))); obtain ⟨_, _, _, _⟩ := HQB.out wI HkI.out; clear hgi hni hli hbi)
      | (go_at_call 10; refine (HTT.out _ ?_).mono ?_; (focus (repeat' first | with_reducible exact HbS.out | with_reducible exact HbT.out | with_reducible exact HbI.out | with_reducible exact HW2.out | with_reducible exact Below.refl _ _ | with_reducible refine belA ?_ _ | with_reducible refine belD ?_ | with_reducible refine belS ?_ ?_ | omega)); rintro e wT ⟨xt, ct, bt, rfl, hbt, hvt, hot, hx1, hx2, hnt, hlt⟩; refine (have HbT : Hid (Below w.heap.size w wT) := belN ?_ hbt; ?_); (focus (repeat' first | with_reducible exact HbS.out | with_reducible exact HbT.out | with_reducible exact HbI.out | with_reducible exact HW2.out | with_reducible exact Below.refl _ _ | with_reducible refine belA ?_ _ | with_reducible refine belD ?_ | with_reducible refine belS ?_ ?_ | omega)); refine (have HkT : Hid (Below w2.heap.size w2 wT) := belN ?_ hbt; ?_); (focus (repeat' first | with_reducible exact HkS.out | with_reducible exact HkT.out | with_reducible exact HkI.out | with_reducible exact Below.refl _ _ | with_reducible refine belA ?_ _ | with_reducible refine belD ?_ | with_reducible refine belS ?_ ?_ | omega)); refine (have HiT : Hid (Below wI.heap.size wI wT) := belN ?_ hbt; ?_); (focus (repeat' first | with_reducible exact Below.refl _ _ | with_reducible refine belA ?_ _ | with_reducible refine belD ?_ | with_reducible refine belS ?_ ?_ | omega)); have HVT : Hid (OsV wT bt t (.agg #[.int .i64 k, .int .i64 n, .string s, .slice xt l.length ct]) ∧ bt.Nodup) := ⟨hvt, hnt⟩; (try (first | (refine (have zT : ZP wT w2.heap.size := ZP.below ?_ hbt; ?_); (focus (with_reducible exact zI))) | (refine (have zT : ZP wT wI.heap.size := ZP.below ?_ hbt; ?_); (focus ((try with_reducible refine ZP.drew ?_); refine ZP.new ?_; (simp; done)))))); obtain ⟨_, _, _, _⟩ := HQB.out wT HkT.out; clear hbt hvt hot hx1 hx2 hnt hlt)
      | (go_at_call 8; refine (HSPK.out _ gi xt ct bi bt ?_ ?_ ?_ HVT.out.2).mono ?_; (focus (repeat' first | with_reducible exact HbS.out | with_reducible exact HbT.out | with_reducible exact HbI.out | with_reducible exact HW2.out | with_reducible exact Below.refl _ _ | with_reducible refine belA ?_ _ | with_reducible refine belD ?_ | with_reducible refine belS ?_ ?_ | omega)); (focus (refine GL.below ?_ HRI.out; refine belN HiT.out ?_; (repeat' first | with_reducible exact Below.refl _ _ | with_reducible refine belA ?_ _ | with_reducible refine belD ?_ | with_reducible refine belS ?_ ?_ | omega))); (focus (refine OsV.below ?_ HVT.out.1; (repeat' first | with_reducible exact Below.refl _ _ | with_reducible refine belA ?_ _ | with_reducible refine belD ?_ | with_reducible refine belS ?_ ?_ | omega))); rintro e wS ⟨ca9, cc9, aa9, ac9, oa9, oc9, rfl, hpk, hbs⟩; refine (have HbS : Hid (Below w.heap.size w wS) := belN ?_ hbs; ?_); (focus (repeat' first | with_reducible exact HbS.out | with_reducible exact HbT.out | with_reducible exact HbI.out | with_reducible exact HW2.out | with_reducible exact Below.refl _ _ | with_reducible refine belA ?_ _ | with_reducible refine belD ?_ | with_reducible refine belS ?_ ?_ | omega)); refine (have HkS : Hid (Below w2.heap.size w2 wS) := belN ?_ hbs; ?_); (focus (repeat' first | with_reducible exact HkS.out | with_reducible exact HkT.out | with_reducible exact HkI.out | with_reducible exact Below.refl _ _ | with_reducible refine belA ?_ _ | with_reducible refine belD ?_ | with_reducible refine belS ?_ ?_ | omega)); have HPK : Hid (PlK _ wS ⟨pc, pa, pn, po⟩ ⟨ca9, cc9, aa9, ac9, oa9, oc9⟩) := hpk; (try (first | (refine (have zS : ZP wS w2.heap.size := ZP.below ?_ hbs; ?_); (focus (with_reducible exact zT)); have HZS : Hid (ZP wS w2.heap.size ∧ ZP wT w2.heap.size) := ⟨zS, zT⟩; obtain ⟨⟨_, _, _, _⟩, _⟩ := zS.cells; clear zS) | (refine (have zS : ZP wS wI.heap.size := ZP.below ?_ hbs; ?_); (focus (with_reducible exact zT)); have HZS : Hid (ZP wS wI.heap.size ∧ ZP wT wI.heap.size) := ⟨zS, zT⟩; obtain ⟨⟨_, _, _, _⟩, _⟩ := zS.cells; clear zS) | (refine (have zS : ZP wS wT.heap.size := ZP.below ?_ hbs; ?_); (focus ((try with_reducible refine ZP.drew ?_); refine ZP.new ?_; (simp; done))); have HZS : Hid (ZP wS wT.heap.size ∧ True) := ⟨zS, trivial⟩; obtain ⟨⟨_, _, _, _⟩, _⟩ := zS.cells; clear zS))); obtain ⟨_, _, _, _⟩ := HQB.out wS HkS.out; clear hpk hbs))
    all_goals
      go_wp2_with fail
      go_meet
      case rel =>
        first
          | (with_reducible refine ⟨_, _, _, _, _, _, _, rfl, rfl, wz_last HkS.out HPK.out⟩)
          | (with_reducible refine ⟨_, _, _, _, _, _, _, rfl, rfl, wz_set HkS.out ?_ HZS.out.1 HPK.out ?_⟩; (focus (first | omega | exact HkI.out.size | exact HkT.out.size)); (focus (first | exact HZS.out.2.lt | (simp; done))))
  case rest =>
    obtain ⟨B6, ca6, cc6, aa6, ac6, oa6, oc6, rfl, rfl, hz6⟩ := hcut
    obtain ⟨W6, hW6⟩ : ∃ W6, W6 = wc := ⟨_, rfl⟩
    obtain rfl := hW6
    have HZ6 : Hid (Wz w2 W6 B6 #[.slice ca6 pc.length cc6, .slice aa6 pa.length ac6, .int .i64 pn, .slice oa6 po.length oc6] ⟨pc, pa, pn, po⟩ ⟨ca6, cc6, aa6, ac6, oa6, oc6⟩) := hz6
    have HW6 : Hid (Below w.heap.size w W6) := belN HW2.out hz6.be
    clear hz6 t0 t1 t2 t3
    have HB6 : Hid (∀ wc, Below W6.heap.size W6 wc → (∀ o, wc.cell? ⟨w.heap.size, o, none⟩ = (#[.int .i64 k, .int .i64 n, .string s, .slice ao l.length cap] : Array Value)[o]?) ∧ (∀ o, wc.cell? ⟨B6, o, none⟩ = (#[.slice ca6 pc.length cc6, .slice aa6 pa.length ac6, .int .i64 pn, .slice oa6 po.length oc6] : Array Value)[o]?) ∧ PlR wc ⟨pc, pa, pn, po⟩ ⟨ca6, cc6, aa6, ac6, oa6, oc6⟩ ∧ Below w.heap.size w wc) := fun wc hb =>
      ⟨HQ0.out wc (belN HB2.out (belN HZ6.out.be hb)), (HZ6.out.next hb).q, (HZ6.out.next hb).r, belN HW6.out hb⟩
    clear HQB
    go_wp2_with (go_at_call 9; fail)
    refine (HTI.out W6 HW6.out).mono ?_
    rintro e w7 ⟨gx, bx, rfl, hgx, hnx, hlx, hb7⟩
    have HX0 : Hid (GL eltI w7 code bx (some ⟨gx, 0, none⟩) ∧ bx.Nodup ∧ (∀ b ∈ bx, W6.heap.size ≤ b ∧ b < w7.heap.size) ∧ Below W6.heap.size W6 w7) := ⟨hgx, hnx, fun b hb => ⟨hlx b hb, hgx.lt b hb⟩, hb7⟩
    have q5 := (HB6.out w7 hb7).1
    clear hgx hnx hlx hb7
    go_wp2_with (go_at_call 10; fail)
    clear q5
    refine (HTT.out w7 (HB6.out w7 HX0.out.2.2.2).2.2.2).mono ?_
    rintro e w8 ⟨xa, xc, bt, rfl, hb8, hv8, ho8, hx1, hx2, hnt, hlt⟩
    obtain ⟨W8, hW8⟩ : ∃ W8, W8 = w8.alloc (.cells #[.int .i64 k, .int .i64 n, .string s, .slice xa l.length xc] 38) := ⟨_, rfl⟩
    have hbW8 : Below w8.heap.size w8 W8 := by rw [hW8]; exact (Below.refl _ _).alloc (Nat.le_refl _) _
    have hzW8 : W8.heap.size = w8.heap.size + 1 := by rw [hW8]; simp
    have HC8 : Hid (Cx W8 code gx bx w8.heap.size #[.int .i64 k, .int .i64 n, .string s, .slice xa l.length xc] t (.agg #[.int .i64 k, .int .i64 n, .string s, .slice xa l.length xc]) l bt xa) := ⟨HX0.out.1.below (belN hb8 hbW8), fun o => by rw [hW8, World.cell?_alloc_new], by omega, OsV.below hbW8 hv8, OsL.below hbW8 ho8⟩
    have HST : Hid (l.length ≤ xc ∧ xc ≤ maxLen ∧ bt.Nodup ∧ bx.Nodup) := ⟨hx1, hx2, hnt, HX0.out.2.1⟩
    have HT8 : Hid (Below W6.heap.size W6 W8) := belN HX0.out.2.2.2 (belN hb8 hbW8)
    have HOR : Hid ((∀ b ∈ bx, W6.heap.size ≤ b ∧ b < w7.heap.size) ∧ (∀ b ∈ bt, w7.heap.size ≤ b ∧ b < w8.heap.size) ∧ W6.heap.size ≤ w7.heap.size ∧ w7.heap.size ≤ w8.heap.size ∧ W8.heap.size = w8.heap.size + 1) := ⟨HX0.out.2.2.1, fun b hb => ⟨hlt b hb, OsL.lt _ _ _ ho8 b hb⟩, HX0.out.2.2.2.size, hb8.size, hzW8⟩
    clear hb8 hv8 ho8 hx1 hx2 hnt hlt hbW8 hzW8 HX0
    go_wp2_with (go_at_call 11; fail)
    rw [← hW8]
    clear hW8
    refine (HIMO.out W8 gx xa xc bx bt (HB6.out W8 HT8.out).2.2.2 HC8.out.x0 HC8.out.x1 HST.out.2.2.1).mono ?_
    rintro e w9 ⟨ca3, cc3, aa3, ac3, oa3, oc3, bg, rfl, hpo, hng, hlg, hb9⟩
    obtain ⟨b1, b2, b3, hbg, hpq⟩ := hpo
    have hltg : ∀ b ∈ bg, b < w9.heap.size := PlO.lt ⟨b1, b2, b3, hbg, hpq⟩
    subst hbg
    obtain ⟨W9, hW9⟩ : ∃ W9, W9 = w9.alloc (.cells #[.slice ca3 pc.length cc3, .slice aa3 pa.length ac3, .int .i64 pn, .slice oa3 po.length oc3] 32) := ⟨_, rfl⟩
    have hbW9 : Below w9.heap.size w9 W9 := by rw [hW9]; exact (Below.refl _ _).alloc (Nat.le_refl _) _
    have hzW9 : W9.heap.size = w9.heap.size + 1 := by rw [hW9]; simp
    have HPQ : Hid (SmI maxLen pc ∧ pc.length ≤ maxLen ∧ pa.length ≤ maxLen ∧ po.length ≤ maxLen) := ⟨hpq.sm, hpq.c1, hpq.a1, hpq.o1⟩
    have HG9 : Hid (Gx W6 W9 w9.heap.size #[.slice ca3 pc.length cc3, .slice aa3 pa.length ac3, .int .i64 pn, .slice oa3 po.length oc3] ⟨pc, pa, pn, po⟩ ⟨ca3, cc3, aa3, ac3, oa3, oc3⟩ b1 b2 b3) := ⟨belN HT8.out (belN hb9 hbW9), fun o => by rw [hW9, World.cell?_alloc_new], by omega, plm_keep (w := w9) ⟨hpq.code, hpq.acts, hpq.out⟩ (fun b _ hl => hbW9.block b hl)⟩
    have HC9 : Hid (Cx W9 code gx bx w8.heap.size #[.int .i64 k, .int .i64 n, .string s, .slice xa l.length xc] t (.agg #[.int .i64 k, .int .i64 n, .string s, .slice xa l.length xc]) l bt xa) := HC8.out.next (belN hb9 hbW9)
    have HBG : Hid ((b1 ++ (b2 ++ b3)).Nodup ∧ (∀ b ∈ b1 ++ (b2 ++ b3), W8.heap.size ≤ b ∧ b < w9.heap.size) ∧ W8.heap.size ≤ w9.heap.size) := ⟨hng, fun b hb => ⟨hlg b hb, hltg b hb⟩, hb9.size⟩
    have HAP : Hid ((∀ b ∈ bx, W6.heap.size ≤ b) ∧ (∀ b ∈ bt, W6.heap.size ≤ b) ∧ (∀ b ∈ b1 ++ (b2 ++ b3), W6.heap.size ≤ b) ∧ w9.heap.size ∉ bx ∧ w9.heap.size ∉ bt ∧ w9.heap.size ∉ b1 ++ (b2 ++ b3) ∧ (∀ b ∈ b1 ++ (b2 ++ b3), b ∉ bx) ∧ (∀ b ∈ b1 ++ (b2 ++ b3), b ∉ bt) ∧ w8.heap.size ∉ bx ∧ (∀ b ∈ bt, b ∉ bx)) := by
      have h := HOR.out
      have h' := HBG.out
      refine ⟨fun b hb => (h.1 b hb).1, fun b hb => by have := h.2.1 b hb; omega, fun b hb => by have := h'.2.1 b hb; omega, fun hm => by have := h.1 _ hm; omega, fun hm => by have := h.2.1 _ hm; omega, fun hm => by have := h'.2.1 _ hm; omega, fun b hb hm => by have := h.1 _ hm; have := h'.2.1 _ hb; omega, fun b hb hm => by have := h.2.1 _ hm; have := h'.2.1 _ hb; omega, fun hm => by have := h.1 _ hm; omega, fun b hb hm => by have := h.1 _ hm; have := h.2.1 _ hb; omega⟩
    have HPR : Hid (∀ wc, PlM wc ⟨pc, pa, pn, po⟩ ⟨ca3, cc3, aa3, ac3, oa3, oc3⟩ b1 b2 b3 → PlR wc ⟨pc, pa, pn, po⟩ ⟨ca3, cc3, aa3, ac3, oa3, oc3⟩) := fun wc x => ⟨x.code.rowI, x.acts.rowA, x.out.rowS, HPQ.out.1, HPQ.out.2.1, HPQ.out.2.2.1, HPQ.out.2.2.2⟩
    have q6 := (HB6.out W9 HG9.out.t6).2.1
    have hlt6 : B6 < w9.heap.size := by have h1 := HZ6.out.lt; have h2 := HOR.out; have h3 := HBG.out.2.2; omega
    have hne6 : ¬ B6 = w9.heap.size := by omega
    rw [hW9] at q6
    have hKK : (K != K) = false := by cases K <;> rfl
    clear hpq hltg hng hlg hb9 hbW9 hzW9 HC8 HT8
    go_wp2_with (go_at_call 12; fail)
    rw [← hW9]
    clear hW9 q6 hlt6 hne6
    refine (HEQ.out W9 _ _ _ _ _ _ _ _ _ _ _ _ (HPR.out W9 HG9.out.g) (HB6.out W9 HG9.out.t6).2.2.1).mono ?_
    rintro e w10 ⟨rfl, hb10⟩
    have HG10 : Hid (Gx W6 w10 w9.heap.size #[.slice ca3 pc.length cc3, .slice aa3 pa.length ac3, .int .i64 pn, .slice oa3 po.length oc3] ⟨pc, pa, pn, po⟩ ⟨ca3, cc3, aa3, ac3, oa3, oc3⟩ b1 b2 b3) := HG9.out.next hb10
    have HC10 : Hid (Cx w10 code gx bx w8.heap.size #[.int .i64 k, .int .i64 n, .string s, .slice xa l.length xc] t (.agg #[.int .i64 k, .int .i64 n, .string s, .slice xa l.length xc]) l bt xa) := HC9.out.next hb10
    clear hb10 HG9 HC9
    go_wp2_with (go_at_call 9; fail)
    refine (HTI.out w10 (HB6.out w10 HG10.out.t6).2.2.2).mono ?_
    rintro e w11 ⟨gy, bsy, rfl, hgy, _, _, hb11⟩
    have HGY : Hid (RowI w11 (some ⟨gy, 0, none⟩) code) := hgy.rowI
    have HG11 : Hid (Gx W6 w11 w9.heap.size #[.slice ca3 pc.length cc3, .slice aa3 pa.length ac3, .int .i64 pn, .slice oa3 po.length oc3] ⟨pc, pa, pn, po⟩ ⟨ca3, cc3, aa3, ac3, oa3, oc3⟩ b1 b2 b3) := HG10.out.next hb11
    have HC11 : Hid (Cx w11 code gx bx w8.heap.size #[.int .i64 k, .int .i64 n, .string s, .slice xa l.length xc] t (.agg #[.int .i64 k, .int .i64 n, .string s, .slice xa l.length xc]) l bt xa) := HC10.out.next hb11
    clear hgy hb11 HG10 HC10
    go_wp2_with (go_at_call 13; fail)
    refine (eqInsS_same code _ _ _ _ w11 HC11.out.x0.rowI HGY.out HLC.out.1).mono ?_
    rintro e w12 ⟨rfl, hb12⟩
    have HG12 : Hid (Gx W6 w12 w9.heap.size #[.slice ca3 pc.length cc3, .slice aa3 pa.length ac3, .int .i64 pn, .slice oa3 po.length oc3] ⟨pc, pa, pn, po⟩ ⟨ca3, cc3, aa3, ac3, oa3, oc3⟩ b1 b2 b3) := HG11.out.next hb12
    have HC12 : Hid (Cx w12 code gx bx w8.heap.size #[.int .i64 k, .int .i64 n, .string s, .slice xa l.length xc] t (.agg #[.int .i64 k, .int .i64 n, .string s, .slice xa l.length xc]) l bt xa) := HC11.out.next hb12
    clear hb12 HG11 HC11 HGY
    have HQB : Hid (∀ wc, Below w12.heap.size w12 wc → ((wc.cell? ⟨w.heap.size, 0, none⟩ = some (.int .i64 k) ∧ wc.cell? ⟨w.heap.size, 1, none⟩ = some (.int .i64 n) ∧ wc.cell? ⟨w.heap.size, 2, none⟩ = some (.string s) ∧ wc.cell? ⟨w.heap.size, 3, none⟩ = some (.slice ao l.length cap)) ∧ (wc.cell? ⟨w8.heap.size, 0, none⟩ = some (.int .i64 k) ∧ wc.cell? ⟨w8.heap.size, 1, none⟩ = some (.int .i64 n) ∧ wc.cell? ⟨w8.heap.size, 2, none⟩ = some (.string s) ∧ wc.cell? ⟨w8.heap.size, 3, none⟩ = some (.slice xa l.length xc)))) := fun wc hb => by
      have hq := (HB6.out wc (belN HG12.out.t6 hb)).1
      have hq' := (HC12.out.next hb).q
      exact ⟨⟨hq 0, hq 1, hq 2, hq 3⟩, ⟨hq' 0, hq' 1, hq' 2, hq' 3⟩⟩
    go_wp2_with fail
    go_cut [63] from 59 to 62 (fun v wx => v = .bool false ∧ Below w12.heap.size w12 wx)
    case first =>
      have S0 := HQB.out w12.drew (Below.refl _ _).drew
      go_region_held3 (fun wc => ((wc.cell? ⟨w.heap.size, 0, none⟩ = some (.int .i64 k) ∧ wc.cell? ⟨w.heap.size, 1, none⟩ = some (.int .i64 n) ∧ wc.cell? ⟨w.heap.size, 2, none⟩ = some (.string s) ∧ wc.cell? ⟨w.heap.size, 3, none⟩ = some (.slice ao l.length cap)) ∧ (wc.cell? ⟨w8.heap.size, 0, none⟩ = some (.int .i64 k) ∧ wc.cell? ⟨w8.heap.size, 1, none⟩ = some (.int .i64 n) ∧ wc.cell? ⟨w8.heap.size, 2, none⟩ = some (.string s) ∧ wc.cell? ⟨w8.heap.size, 3, none⟩ = some (.slice xa l.length xc)))) (first | (refine HQB.out _ ?_; (first | with_reducible exact HkU.out | with_reducible exact HkT.out | with_reducible exact (Below.refl _ _).drew))) (first
        | (go_at_call 10; refine (HTT.out w12.drew (belD (HB6.out w12 HG12.out.t6).2.2.2)).mono ?_; rintro e wT ⟨xt, ct, bq, rfl, hbt, hvt, _, _, _, _, _⟩; have HkT : Hid (Below w12.heap.size w12 wT) := belN (Below.refl _ _).drew hbt; have HVT : Hid (RepV 0 wT t (.agg #[.int .i64 k, .int .i64 n, .string s, .slice xt l.length ct])) := hvt.rep; clear hbt hvt)
        | (go_at_call 14; refine (eqT_all t 0 wT _ _ (HC12.out.next HkT.out).x1.rep HVT.out).mono ?_; rintro e wU ⟨rfl, hbu⟩; have HkU : Hid (Below w12.heap.size w12 wU) := belN HkT.out hbu; clear hbu))
      all_goals
        go_wp2_with fail
        go_meet
        case rel => exact ⟨rfl, HkU.out⟩
    case rest =>
    obtain ⟨rfl, hb13⟩ := hcut
    obtain ⟨w13, hw13⟩ : ∃ w13, w13 = wc := ⟨_, rfl⟩
    obtain rfl := hw13
    have HG13 : Hid (Gx W6 w13 w9.heap.size #[.slice ca3 pc.length cc3, .slice aa3 pa.length ac3, .int .i64 pn, .slice oa3 po.length oc3] ⟨pc, pa, pn, po⟩ ⟨ca3, cc3, aa3, ac3, oa3, oc3⟩ b1 b2 b3) := HG12.out.next hb13
    have HC13 : Hid (Cx w13 code gx bx w8.heap.size #[.int .i64 k, .int .i64 n, .string s, .slice xa l.length xc] t (.agg #[.int .i64 k, .int .i64 n, .string s, .slice xa l.length xc]) l bt xa) := HC12.out.next hb13
    clear hb13 HQB HG12 HC12
    have HMI : Hid (∀ wc, GL eltI wc code bx (some ⟨gx, 0, none⟩) → Calls Tryz.prog 15 #[.slice (some ⟨gx, 0, none⟩) code.length code.length, .int .i64 1] wc fun e w' => e = .returned (.int .i64 ((1 + cG cI code : Nat) : Int)) ∧ OutB bx wc w') := fun wc h => (markInsS_any code bx _ _ 1 wc h HST.out.2.2.2 (by have := HLC.out.1; unfold maxLen; omega) (Nat.le_refl _) (by have := HCX.out; omega)).mono fun e w' ⟨a, _, c⟩ => ⟨a, c⟩
    have HMT : Hid (∀ wc, OsL wc l bt xa → Calls Tryz.prog 16 #[.agg #[.int .i64 k, .int .i64 n, .string s, .slice xa l.length xc], .int .i64 ((1 + cG cI code : Nat) : Int)] wc fun e w' => e = .returned (.int .i64 ((1 + cG cI code + cL l : Nat) : Int)) ∧ OutB bt wc w') := fun wc h => markTermK_any k n s l xa xc bt (1 + cG cI code) wc h HST.out.2.2.1 HST.out.1 HST.out.2.1 (by omega) HCX.out
    have HMP : Hid (∀ wc, PlM wc ⟨pc, pa, pn, po⟩ ⟨ca3, cc3, aa3, ac3, oa3, oc3⟩ b1 b2 b3 → Calls Tryz.prog 17 #[.agg #[.slice ca3 pc.length cc3, .slice aa3 pa.length ac3, .int .i64 pn, .slice oa3 po.length oc3], .int .i64 1] wc fun e w' => e = .returned (.int .i64 ((1 + cP ⟨pc, pa, pn, po⟩ : Nat) : Int)) ∧ PlM w' (mrP ⟨pc, pa, pn, po⟩ 1) ⟨ca3, cc3, aa3, ac3, oa3, oc3⟩ b1 b2 b3 ∧ OutB (b1 ++ (b2 ++ b3)) wc w') := fun wc h => markPlain_any ⟨pc, pa, pn, po⟩ ⟨ca3, cc3, aa3, ac3, oa3, oc3⟩ b1 b2 b3 1 wc h HBG.out.1 HPQ.out.2.1 HPQ.out.2.2.1 HPQ.out.2.2.2 (Nat.le_refl _) (by have := HCP.out; omega)
    have HHP : Hid (∀ wc, PlM wc (mrP ⟨pc, pa, pn, po⟩ 1) ⟨ca3, cc3, aa3, ac3, oa3, oc3⟩ b1 b2 b3 → Calls Tryz.prog 18 #[.agg #[.slice ca3 pc.length cc3, .slice aa3 pa.length ac3, .int .i64 pn, .slice oa3 po.length oc3], .int .i64 1] wc fun e w' => e = .returned (.int .i64 ((1 + cP ⟨pc, pa, pn, po⟩ : Nat) : Int)) ∧ Below wc.heap.size wc w') := fun wc h => heldPlain_any ⟨pc, pa, pn, po⟩ ⟨ca3, cc3, aa3, ac3, oa3, oc3⟩ 1 wc h.code.rowI h.acts.rowA h.out.rowS HPQ.out.2.1 HPQ.out.2.2.1 HPQ.out.2.2.2 (Nat.le_refl _) (by have := HCP.out; omega)
    have hK2 : ¬ ((1 + cG cI code + cL l : Nat) : Int) < 0 := by omega
    have hK3 : ¬ ((1 + cP ⟨pc, pa, pn, po⟩ : Nat) : Int) < 0 := by omega
    generalize ((1 + cG cI code : Nat) : Int) = K1 at HMI HMT
    generalize ((1 + cG cI code + cL l : Nat) : Int) = K2 at HMT hK2
    generalize ((1 + cP ⟨pc, pa, pn, po⟩ : Nat) : Int) = K3 at HMP HHP hK3
    generalize w9.heap.size = B10 at *
    generalize w8.heap.size = B9 at *
    go_wp2_with (go_at_call 15; fail)
    refine (HMI.out w13 HC13.out.x0).mono ?_
    rintro e w14 ⟨rfl, ho14⟩
    have HG14 : Hid (Gx W6 w14 B10 #[.slice ca3 pc.length cc3, .slice aa3 pa.length ac3, .int .i64 pn, .slice oa3 po.length oc3] ⟨pc, pa, pn, po⟩ ⟨ca3, cc3, aa3, ac3, oa3, oc3⟩ b1 b2 b3) := HG13.out.out ho14 HAP.out.1 HAP.out.2.2.2.1 HAP.out.2.2.2.2.2.2.1
    have HX14 : Hid ((∀ o, w14.cell? ⟨B9, o, none⟩ = (#[.int .i64 k, .int .i64 n, .string s, .slice xa l.length xc] : Array Value)[o]?) ∧ OsL w14 l bt xa) := ⟨fun o => (World.cell?_of_block (w := w13) (ho14.block B9 HC13.out.lt HAP.out.2.2.2.2.2.2.2.2.1)).trans (HC13.out.q o), OsL.keep _ _ _ (fun b hb hl => ho14.block b hl (HAP.out.2.2.2.2.2.2.2.2.2 b hb)) HC13.out.xl⟩
    have q9 := HX14.out.1
    clear ho14 HG13 HC13
    go_wp2_with (go_at_call 16; fail)
    clear q9
    refine (HMT.out w14 HX14.out.2).mono ?_
    rintro e w15 ⟨rfl, ho15⟩
    have HG15 : Hid (Gx W6 w15 B10 #[.slice ca3 pc.length cc3, .slice aa3 pa.length ac3, .int .i64 pn, .slice oa3 po.length oc3] ⟨pc, pa, pn, po⟩ ⟨ca3, cc3, aa3, ac3, oa3, oc3⟩ b1 b2 b3) := HG14.out.out ho15 HAP.out.2.1 HAP.out.2.2.2.2.1 HAP.out.2.2.2.2.2.2.2.1
    have q10 := HG15.out.q
    have q6 := (HB6.out w15 HG15.out.t6).2.1
    clear ho15 HG14 HX14
    go_wp2_with (go_at_call 12; fail)
    clear q10 q6
    refine (HEQ.out w15 _ _ _ _ _ _ _ _ _ _ _ _ (HPR.out w15 HG15.out.g) (HB6.out w15 HG15.out.t6).2.2.1).mono ?_
    rintro e w16 ⟨rfl, hb16⟩
    have HG16 : Hid (Gx W6 w16 B10 #[.slice ca3 pc.length cc3, .slice aa3 pa.length ac3, .int .i64 pn, .slice oa3 po.length oc3] ⟨pc, pa, pn, po⟩ ⟨ca3, cc3, aa3, ac3, oa3, oc3⟩ b1 b2 b3) := HG15.out.next hb16
    have q10 := HG16.out.q
    clear hb16 HG15
    go_wp2_with (go_at_call 17; fail)
    clear q10
    refine (HMP.out w16 HG16.out.g).mono ?_
    rintro e w17 ⟨rfl, hm17, ho17⟩
    have HG17 : Hid (Gx W6 w17 B10 #[.slice ca3 pc.length cc3, .slice aa3 pa.length ac3, .int .i64 pn, .slice oa3 po.length oc3] (mrP ⟨pc, pa, pn, po⟩ 1) ⟨ca3, cc3, aa3, ac3, oa3, oc3⟩ b1 b2 b3) := HG16.out.mark ho17 HAP.out.2.2.1 HAP.out.2.2.2.2.2.1 hm17
    have q10 := HG17.out.q
    have hKK3 : (K3 != K3) = false := by simp
    clear hm17 ho17 HG16
    go_wp2_with (go_at_call 18; fail)
    clear q10
    refine (HHP.out w17 HG17.out.g).mono ?_
    rintro e w18 ⟨rfl, hb18⟩
    have HG18 : Hid (Gx W6 w18 B10 #[.slice ca3 pc.length cc3, .slice aa3 pa.length ac3, .int .i64 pn, .slice oa3 po.length oc3] (mrP ⟨pc, pa, pn, po⟩ 1) ⟨ca3, cc3, aa3, ac3, oa3, oc3⟩ b1 b2 b3) := HG17.out.next hb18
    have HW18 : Hid (Below w.heap.size w w18) := (HB6.out w18 HG18.out.t6).2.2.2
    clear hb18 HG17
    have HQB : Hid (∀ wc, Below w18.heap.size w18 wc → wc.cell? ⟨w.heap.size, 0, none⟩ = some (.int .i64 k) ∧ wc.cell? ⟨w.heap.size, 1, none⟩ = some (.int .i64 n) ∧ wc.cell? ⟨w.heap.size, 2, none⟩ = some (.string s) ∧ wc.cell? ⟨w.heap.size, 3, none⟩ = some (.slice ao l.length cap)) := fun wc hb => by
      have hq := (HB6.out wc (belN HG18.out.t6 hb)).1
      exact ⟨hq 0, hq 1, hq 2, hq 3⟩
    go_wp2_with fail
    obtain ⟨t0, t1, t2, t3⟩ := HQB.out w18 (Below.refl _ _)
    go_cut [15, 16] from 94 to 101 (fun v6 v7 wx => ∃ (B : Nat) (ca7 : Option Addr) (cc7 : Nat) (aa7 : Option Addr) (ac7 : Nat) (oa7 : Option Addr) (oc7 : Nat), v6 = .pointer (some ⟨B, 0, none⟩) ∧ v7 = .bool K ∧ Wz w18 wx B #[.slice ca7 pc.length cc7, .slice aa7 pa.length ac7, .int .i64 pn, .slice oa7 po.length oc7] ⟨pc, pa, pn, po⟩ ⟨ca7, cc7, aa7, ac7, oa7, oc7⟩)
    case first =>
      have S0 : w18.drew.cell? ⟨w.heap.size, 0, none⟩ = some (.int .i64 k) ∧ w18.drew.cell? ⟨w.heap.size, 1, none⟩ = some (.int .i64 n) ∧ w18.drew.cell? ⟨w.heap.size, 2, none⟩ = some (.string s) ∧ w18.drew.cell? ⟨w.heap.size, 3, none⟩ = some (.slice ao l.length cap) := HQB.out _ (Below.refl _ _).drew
      go_region_held3 (fun w' => w'.cell? ⟨w.heap.size, 0, none⟩ = some (.int .i64 k) ∧ w'.cell? ⟨w.heap.size, 1, none⟩ = some (.int .i64 n) ∧ w'.cell? ⟨w.heap.size, 2, none⟩ = some (.string s) ∧ w'.cell? ⟨w.heap.size, 3, none⟩ = some (.slice ao l.length cap)) (first | (refine HQB.out _ ?_; (repeat' first | with_reducible exact HkS.out | with_reducible exact HkT.out | with_reducible exact HkI.out | with_reducible exact Below.refl _ _ | with_reducible refine belA ?_ _ | with_reducible refine belD ?_ | with_reducible refine belS ?_ ?_ | with_reducible exact HkI.out.size | with_reducible exact HkT.out.size | with_reducible exact HkS.out.size | omega); done) | go_keep) (first
        | (go_at_call 9; refine (HTI.out _ ?_).mono ?_; (focus (repeat' first | with_reducible exact HbS.out | with_reducible exact HbT.out | with_reducible exact HbI.out | with_reducible exact HW18.out | with_reducible exact Below.refl _ _ | with_reducible refine belA ?_ _ | with_reducible refine belD ?_ | with_reducible refine belS ?_ ?_ | omega)); rintro e wI ⟨gi, bi, rfl, hgi, hni, hli, hbi⟩; refine (have HbI : Hid (Below w.heap.size w wI) := belN ?_ hbi; ?_); (focus (repeat' first | with_reducible exact HbS.out | with_reducible exact HbT.out | with_reducible exact HbI.out | with_reducible exact HW18.out | with_reducible exact Below.refl _ _ | with_reducible refine belA ?_ _ | with_reducible refine belD ?_ | with_reducible refine belS ?_ ?_ | omega)); refine (have HkI : Hid (Below w18.heap.size w18 wI) := belN ?_ hbi; ?_); (focus (repeat' first | with_reducible exact HkS.out | with_reducible exact HkT.out | with_reducible exact HkI.out | with_reducible exact Below.refl _ _ | with_reducible refine belA ?_ _ | with_reducible refine belD ?_ | with_reducible refine belS ?_ ?_ | omega)); have HRI : Hid (GL eltI wI code bi (some ⟨gi, 0, none⟩)) := hgi; (try (refine (have zI : ZP wI w18.heap.size := ZP.below ?_ hbi; ?_); (focus ((try with_reducible refine ZP.drew ?_); refine ZP.new ?_; (simp; done))))); obtain ⟨_, _, _, _⟩ := HQB.out wI HkI.out; clear hgi hni hli hbi)
        | (go_at_call 10; refine (HTT.out _ ?_).mono ?_; (focus (repeat' first | with_reducible exact HbS.out | with_reducible exact HbT.out | with_reducible exact HbI.out | with_reducible exact HW18.out | with_reducible exact Below.refl _ _ | with_reducible refine belA ?_ _ | with_reducible refine belD ?_ | with_reducible refine belS ?_ ?_ | omega)); rintro e wT ⟨xt, ct, bt, rfl, hbt, hvt, hot, hx1, hx2, hnt, hlt⟩; refine (have HbT : Hid (Below w.heap.size w wT) := belN ?_ hbt; ?_); (focus (repeat' first | with_reducible exact HbS.out | with_reducible exact HbT.out | with_reducible exact HbI.out | with_reducible exact HW18.out | with_reducible exact Below.refl _ _ | with_reducible refine belA ?_ _ | with_reducible refine belD ?_ | with_reducible refine belS ?_ ?_ | omega)); refine (have HkT : Hid (Below w18.heap.size w18 wT) := belN ?_ hbt; ?_); (focus (repeat' first | with_reducible exact HkS.out | with_reducible exact HkT.out | with_reducible exact HkI.out | with_reducible exact Below.refl _ _ | with_reducible refine belA ?_ _ | with_reducible refine belD ?_ | with_reducible refine belS ?_ ?_ | omega)); refine (have HiT : Hid (Below wI.heap.size wI wT) := belN ?_ hbt; ?_); (focus (repeat' first | with_reducible exact Below.refl _ _ | with_reducible refine belA ?_ _ | with_reducible refine belD ?_ | with_reducible refine belS ?_ ?_ | omega)); have HVT : Hid (OsV wT bt t (.agg #[.int .i64 k, .int .i64 n, .string s, .slice xt l.length ct]) ∧ bt.Nodup) := ⟨hvt, hnt⟩; (try (first | (refine (have zT : ZP wT w18.heap.size := ZP.below ?_ hbt; ?_); (focus (with_reducible exact zI))) | (refine (have zT : ZP wT wI.heap.size := ZP.below ?_ hbt; ?_); (focus ((try with_reducible refine ZP.drew ?_); refine ZP.new ?_; (simp; done)))))); obtain ⟨_, _, _, _⟩ := HQB.out wT HkT.out; clear hbt hvt hot hx1 hx2 hnt hlt)
        | (go_at_call 11; refine (HIMK.out _ gi xt ct bi bt ?_ ?_ ?_ HVT.out.2).mono ?_; (focus (repeat' first | with_reducible exact HbS.out | with_reducible exact HbT.out | with_reducible exact HbI.out | with_reducible exact HW18.out | with_reducible exact Below.refl _ _ | with_reducible refine belA ?_ _ | with_reducible refine belD ?_ | with_reducible refine belS ?_ ?_ | omega)); (focus (refine GL.below ?_ HRI.out; refine belN HiT.out ?_; (repeat' first | with_reducible exact Below.refl _ _ | with_reducible refine belA ?_ _ | with_reducible refine belD ?_ | with_reducible refine belS ?_ ?_ | omega))); (focus (refine OsV.below ?_ HVT.out.1; (repeat' first | with_reducible exact Below.refl _ _ | with_reducible refine belA ?_ _ | with_reducible refine belD ?_ | with_reducible refine belS ?_ ?_ | omega))); rintro e wS ⟨ca9, cc9, aa9, ac9, oa9, oc9, rfl, hpk, hbs⟩; refine (have HbS : Hid (Below w.heap.size w wS) := belN ?_ hbs; ?_); (focus (repeat' first | with_reducible exact HbS.out | with_reducible exact HbT.out | with_reducible exact HbI.out | with_reducible exact HW18.out | with_reducible exact Below.refl _ _ | with_reducible refine belA ?_ _ | with_reducible refine belD ?_ | with_reducible refine belS ?_ ?_ | omega)); refine (have HkS : Hid (Below w18.heap.size w18 wS) := belN ?_ hbs; ?_); (focus (repeat' first | with_reducible exact HkS.out | with_reducible exact HkT.out | with_reducible exact HkI.out | with_reducible exact Below.refl _ _ | with_reducible refine belA ?_ _ | with_reducible refine belD ?_ | with_reducible refine belS ?_ ?_ | omega)); have HPK : Hid (PlK _ wS ⟨pc, pa, pn, po⟩ ⟨ca9, cc9, aa9, ac9, oa9, oc9⟩) := hpk; (try (first | (refine (have zS : ZP wS w18.heap.size := ZP.below ?_ hbs; ?_); (focus (with_reducible exact zT)); have HZS : Hid (ZP wS w18.heap.size ∧ ZP wT w18.heap.size) := ⟨zS, zT⟩; obtain ⟨⟨_, _, _, _⟩, _⟩ := zS.cells; clear zS) | (refine (have zS : ZP wS wI.heap.size := ZP.below ?_ hbs; ?_); (focus (with_reducible exact zT)); have HZS : Hid (ZP wS wI.heap.size ∧ ZP wT wI.heap.size) := ⟨zS, zT⟩; obtain ⟨⟨_, _, _, _⟩, _⟩ := zS.cells; clear zS) | (refine (have zS : ZP wS wT.heap.size := ZP.below ?_ hbs; ?_); (focus ((try with_reducible refine ZP.drew ?_); refine ZP.new ?_; (simp; done))); have HZS : Hid (ZP wS wT.heap.size ∧ True) := ⟨zS, trivial⟩; obtain ⟨⟨_, _, _, _⟩, _⟩ := zS.cells; clear zS))); obtain ⟨_, _, _, _⟩ := HQB.out wS HkS.out; clear hpk hbs))
      all_goals
        go_wp2_with fail
        go_meet
        case rel =>
          first
            | (with_reducible refine ⟨_, _, _, _, _, _, _, rfl, rfl, wz_last HkS.out HPK.out⟩)
            | (with_reducible refine ⟨_, _, _, _, _, _, _, rfl, rfl, wz_set HkS.out ?_ HZS.out.1 HPK.out ?_⟩; (focus (first | omega | exact HkI.out.size | exact HkT.out.size)); (focus (first | exact HZS.out.2.lt | (simp; done))))

    case rest =>
    obtain ⟨B15, ca7, cc7, aa7, ac7, oa7, oc7, rfl, rfl, hz7⟩ := hcut
    obtain ⟨w19, hw19⟩ : ∃ w19, w19 = wc := ⟨_, rfl⟩
    obtain rfl := hw19
    have HZ7 : Hid (Wz w18 w19 B15 #[.slice ca7 pc.length cc7, .slice aa7 pa.length ac7, .int .i64 pn, .slice oa7 po.length oc7] ⟨pc, pa, pn, po⟩ ⟨ca7, cc7, aa7, ac7, oa7, oc7⟩) := hz7
    have HG19 : Hid (Gx W6 w19 B10 #[.slice ca3 pc.length cc3, .slice aa3 pa.length ac3, .int .i64 pn, .slice oa3 po.length oc3] (mrP ⟨pc, pa, pn, po⟩ 1) ⟨ca3, cc3, aa3, ac3, oa3, oc3⟩ b1 b2 b3) := HG18.out.next hz7.be
    have q15 := hz7.q
    have q6 := (HB6.out w19 HG19.out.t6).2.1
    clear hz7 t0 t1 t2 t3 HQB
    go_wp2_with (go_at_call 12; fail)
    clear q15 q6
    refine (HEQ.out w19 _ _ _ _ _ _ _ _ _ _ _ _ HZ7.out.r (HB6.out w19 HG19.out.t6).2.2.1).mono ?_
    rintro e w20 ⟨rfl, hb20⟩
    have HG20 : Hid (Gx W6 w20 B10 #[.slice ca3 pc.length cc3, .slice aa3 pa.length ac3, .int .i64 pn, .slice oa3 po.length oc3] (mrP ⟨pc, pa, pn, po⟩ 1) ⟨ca3, cc3, aa3, ac3, oa3, oc3⟩ b1 b2 b3) := HG19.out.next hb20
    have q10 := HG20.out.q
    clear hb20 HG19
    go_wp2_with (go_at_call 18; fail)
    clear q10
    refine (HHP.out w20 HG20.out.g).mono ?_
    rintro e w21 ⟨rfl, hb21⟩
    have HFZ : Hid (Below w.heap.size w w21) := (HB6.out w21 (HG20.out.next hb21).t6).2.2.2
    clear hb21
    go_wp2_with fail
    go_ret
    exact ⟨rfl, HFZ.out⟩
end Go.Proofs.YtjibnlpjpbileaaGreatDoor.fnExactPlainNew
