/-
  What the law FnNewActors does.
  (Ahead of it, in this text: The program's SameTerm and LessTerm, by its comparison. Timers drawn for FnDropped; a term in blocks of its own may be compared. A new actor, the specification's, once more: its registers stand in blocks of which nothing is frozen. Terms of two actors held side by side by the law; an actor's start drawn. Two actors are held side by side by the law.)
-/
import Derived.Test.YtfjaphhijefdlaaGreatDoorC8
import Derived.Test.YtfjaphhijefdlaaGreatDoorC7
import Derived.Test.YtfjaphhijefdlaaGreatDoorC3
import Derived.Test.YtfjaphhijefdlaaGreatDoorInn
import Derived.Test.YtfjaphhijefdlaaGreatDoorC12
import Derived.Test.YtfjaphhijefdlaaGreatDoorC11
import Derived.Test.YtfjaphhijefdlaaGreatDoorCoM
namespace Go.Proofs.YtfjaphhijefdlaaGreatDoor
open Go.RowKit
set_option linter.unusedVariables false

def bnd : Nat → Nat
  | 0 => 1
  | d + 1 => 1 + 3 * bnd d
theorem cntL_le {c : Nat} : ∀ l : List Tm, (∀ t, t ∈ l → cntT t ≤ c) → cntL l ≤ l.length * c
  | [], _ => by rw [cntL]; omega
  | t :: r, h => by
    have h1 := h t (List.mem_cons_self ..)
    have h2 := cntL_le r (fun x hx => h x (List.mem_cons_of_mem _ hx))
    rw [cntL, List.length_cons, Nat.add_mul]; omega
theorem cnt_bnd : ∀ (d : Nat) (t : Tm), RtT d t → cntT t ≤ bnd d
  | 0, .mk k n s l, h => by
    have h2 := h.2
    rw [DpT] at h2
    subst h2
    rw [cntT, cntL]; exact Nat.le_refl _
  | d + 1, .mk k n s l, h => by
    have h1 := h.1
    have h2 := h.2
    rw [DpT] at h2
    rw [WfT] at h1
    have h3 := cntL_le (c := bnd d) l (fun t ht => cnt_bnd d t ⟨h1.2.2 t ht, h2 t ht⟩)
    have h4 : l.length * bnd d ≤ 3 * bnd d := Nat.mul_le_mul_right _ h1.2.1
    rw [cntT, bnd]; omega
theorem cnt_6 {d : Nat} (hd : d ≤ 6) {t : Tm} (h : RtT d t) : cntT t ≤ 1000000000 := by
  have h1 := cnt_bnd d t h
  have h2 : bnd d ≤ 100000 := by
    have : d = 0 ∨ d = 1 ∨ d = 2 ∨ d = 3 ∨ d = 4 ∨ d = 5 ∨ d = 6 := by omega
    rcases this with rfl | rfl | rfl | rfl | rfl | rfl | rfl <;> decide
  omega

set_option maxHeartbeats 4000000 in
theorem sameI_of (k n : Int) (s : ByteArray) (l : List Tm) (ax : Option Addr) (cx : Nat) (k' n' : Int) (s' : ByteArray) (l' : List Tm) (ay : Option Addr) (cy : Nat) (w : World)
    (hv : RepV 0 w (.mk k n s l) (.agg #[.int .i64 k, .int .i64 n, .string s, .slice ax l.length cx])) (hv' : RepV 0 w (.mk k' n' s' l') (.agg #[.int .i64 k', .int .i64 n', .string s', .slice ay l'.length cy]))
    (hp : HpT w (.mk k n s l) ax (.mk k' n' s' l') ay) (hcnt : cntT (.mk k n s l) ≤ 1000000000) (q : Bool) (hq : q = true ↔ cmpT (.mk k n s l) (.mk k' n' s' l') = 0) :
    Calls Tryz.prog 11 #[.agg #[.int .i64 k, .int .i64 n, .string s, .slice ax l.length cx], .agg #[.int .i64 k', .int .i64 n', .string s', .slice ay l'.length cy]] w fun e w' => e = .returned (.bool q) ∧ Below w.heap.size w w' := by
  have HB2 : Hid (∀ a b, Below w.heap.size w ((w.alloc a).alloc b)) := fun a b => ((Below.refl _ _).alloc (Nat.le_refl _) _).alloc (by simp) _
  obtain ⟨C, hC⟩ : ∃ C, C = cmpT (.mk k n s l) (.mk k' n' s' l') := ⟨_, rfl⟩
  have HT : Hid (∀ W, Below w.heap.size w W → Calls Tryz.prog 29 #[.agg #[.int .i64 k, .int .i64 n, .string s, .slice ax l.length cx], .agg #[.int .i64 k', .int .i64 n', .string s', .slice ay l'.length cy]] W fun e w' => e = .returned (.int .i64 C) ∧ Below w.heap.size w w') := fun W hb => by
    rw [hC]
    refine (termOrder_any k n s l ax cx k' n' s' l' ay cy W ((Keeps.below hb 0).repV hv) ((Keeps.below hb 0).repV hv') ?_ hcnt).mono fun e w' h => ⟨h.1, hb.trans (h.2.mono hb.size)⟩
    obtain ⟨_, _, e1, _, _, _, r1⟩ := hv
    obtain ⟨_, _, e2, _, _, _, r2⟩ := hv'
    cases e1
    cases e2
    exact HpT.below hb _ _ _ _ (fun k1 n1 s1 l1 k2 n2 s2 l2 e3 e4 => by cases e3; cases e4; exact ⟨r1, r2⟩) hp
  have e1 : (C == 0) = q := by
    rw [← hC] at hq
    cases q
    · rw [beq_eq_false_iff_ne]; exact fun h => absurd (hq.2 h) (by decide)
    · rw [beq_iff_eq]; exact hq.1 rfl
  clear hv hv' hp hcnt hq hC
  go_enter Tryz.func11, Tryz.ntmps11
  go_wp2_with (go_at_call 29; refine (HT.out _ ?_).mono ?_; exact HB2.out _ _; rintro e w1 ⟨rfl, hb1⟩)
  go_ret
  exact ⟨rfl, hb1⟩
theorem sameI_nf {t t' : Tm} {S S' : Nat → Prop} {w : World} {v v' : Value} (hS : ∀ b, S b → Nf w b) (hS' : ∀ b, S' b → Nf w b) (h : RpV S w t v) (h' : RpV S' w t' v') (hc : cntT t ≤ 1000000000) (q : Bool) (hq : q = true ↔ cmpT t t' = 0) :
    Calls Tryz.prog 11 #[v, v'] w fun e w' => e = .returned (.bool q) ∧ Below w.heap.size w w' := by
  obtain ⟨k, n, s, l⟩ := t
  obtain ⟨k', n', s', l'⟩ := t'
  have g := h.rep
  have g' := h'.rep
  obtain ⟨ax, cx, rfl, _, _, _, r1⟩ := h
  obtain ⟨ay, cy, rfl, _, _, _, r2⟩ := h'
  exact sameI_of k n s l ax cx k' n' s' l' ay cy w g g' (hpT_nf hS hS' _ _ _ _ (fun k1 n1 s1 l1 k2 n2 s2 l2 e3 e4 => by cases e3; cases e4; exact ⟨r1, r2⟩)) hc q hq
theorem nf_below {t : Tm} {w w' : World} {v : Value} (h : RpV (Nf w) w t v) (hb : Below w.heap.size w w') : RpV (Nf w') w' t v :=
  Moves.repV (fun b o v hq hc => ⟨hq.blk (hb.block b (World.block_lt_of_cell? w _ hc)), by rw [hb.cell (p := ⟨b, o, none⟩) (World.block_lt_of_cell? w _ hc)]; exact hc⟩) h
end Go.Proofs.YtfjaphhijefdlaaGreatDoor
namespace Go.Proofs.YtfjaphhijefdlaaGreatDoor.Tv
open Go.RowKit Atom
open Go.Proofs.YtfjaphhijefdlaaGreatDoor.Tr
set_option linter.unusedVariables false

/-! ### Terms in blocks of their own are compared -/
theorem osT_rp {w : World} : ∀ t : Tm, ∀ bs b off, OsT w t bs b off → RpT (Nf w) w t b off := by
  refine Tm.ind ?_
  intro k n s l ih bs b off h
  rw [OsT] at h
  rw [RpT]
  obtain ⟨h0, h1, h2, hs, ao, cap, h3, hl, hc, hr⟩ := h
  refine ⟨h0, h1, h2, by unfold maxLen; omega, ao, cap, h3, hl, hc, ?_⟩
  have go : ∀ (m : List Tm), (∀ t, t ∈ m → ∀ bs b off, OsT w t bs b off → RpT (Nf w) w t b off) → ∀ bs g o, Nf w g → OsR w m bs g o → RpL (Nf w) w m (some ⟨g, o, none⟩) := by
    intro m
    induction m with
    | nil => intro _ _ _ _ _ _; rw [RpL]; trivial
    | cons t r ihr =>
      intro hm bs g o hg hq
      rw [OsR] at hq
      obtain ⟨b1, b2, _, q1, q2⟩ := hq
      rw [RpL]
      exact ⟨g, o, rfl, hg, hm t (List.mem_cons_self ..) _ _ _ q1, ihr (fun x hx => hm x (List.mem_cons_of_mem _ hx)) _ _ _ hg q2⟩
  by_cases hn : l = []
  · subst hn; rw [RpL]; trivial
  · obtain ⟨g, o, bb, _, rfl, hf, hq⟩ := (OsL.iff hn).1 hr
    exact go l ih bb g o hf hq
theorem osV_rp {w : World} {t : Tm} {bs : List Nat} {v : Value} (h : OsV w bs t v) : RpV (Nf w) w t v := by
  obtain ⟨k, n, s, l⟩ := t
  obtain ⟨ao, cap, e, hs, hl, hc, hr⟩ := h
  refine ⟨ao, cap, e, by unfold maxLen; omega, hl, hc, ?_⟩
  by_cases hn : l = []
  · subst hn; rw [RpL]; trivial
  · obtain ⟨g, o, bb, _, rfl, hf, hq⟩ := (OsL.iff hn).1 hr
    have go : ∀ (m : List Tm) bs o, OsR w m bs g o → RpL (Nf w) w m (some ⟨g, o, none⟩) := by
      intro m
      induction m with
      | nil => intro _ _ _; rw [RpL]; trivial
      | cons t r ihr =>
        intro bs o hq
        rw [OsR] at hq
        obtain ⟨b1, b2, _, q1, q2⟩ := hq
        rw [RpL]
        exact ⟨g, o, rfl, hf, osT_rp t _ _ _ q1, ihr _ _ q2⟩
    exact go l bb o hq
/-- One term, wherever it stands twice in blocks of its own, is the same to the program. -/
theorem same_one {w : World} {t : Tm} {v v' : Value} (h : RpV (Nf w) w t v) (h' : RpV (Nf w) w t v') (hc : cntT t ≤ 1000000000) :
    Calls Tryz.prog 11 #[v, v'] w fun e w' => e = .returned (.bool true) ∧ Below w.heap.size w w' :=
  sameI_nf (fun b hb => hb) (fun b hb => hb) h h' hc true ⟨fun _ => cmpT_self t, fun _ => rfl⟩
/-- The cells of one timer of a row. -/
structure Bt (w : World) (g o : Nat) (x : Sd) (tk tn : Int) (ts : ByteArray) (tao : Option Addr) (tlen tcap : Nat) : Prop where
  c0 : w.cell? ⟨g, o, none⟩ = some (.int .i64 x.kind)
  c1 : w.cell? ⟨g, o + 1, none⟩ = some (.int .i64 x.pid)
  c2 : w.cell? ⟨g, o + 2, none⟩ = some (.int .i64 tk)
  c3 : w.cell? ⟨g, o + 3, none⟩ = some (.int .i64 tn)
  c4 : w.cell? ⟨g, o + 4, none⟩ = some (.string ts)
  c5 : w.cell? ⟨g, o + 5, none⟩ = some (.slice tao tlen tcap)
  t : RpV (Nf w) w x.t (.agg #[.int .i64 tk, .int .i64 tn, .string ts, .slice tao tlen tcap])
theorem elt_bt {w : World} {x : Sd} {bs : List Nat} {g o : Nat} (h : eltS.E w x bs g o) : ∃ tk tn ts tao tlen tcap, Bt w g o x tk tn ts tao tlen tcap := by
  obtain ⟨h0, h1, h2⟩ := h
  obtain ⟨kd, pd, t⟩ := x
  obtain ⟨k, n, s, l⟩ := t
  have h3 := osT_rp _ _ _ _ h2
  rw [OsT] at h2
  rw [RpT] at h3
  obtain ⟨a0, a1, a2, hs, ao, cap, a3, hl, hc, hr⟩ := h2
  obtain ⟨_, _, _, hs', ao', cap', a3', hl', hc', hr'⟩ := h3
  rw [a3] at a3'
  simp only [Option.some.injEq, Value.slice.injEq, true_and] at a3'
  obtain ⟨rfl, rfl⟩ := a3'
  exact ⟨k, n, s, ao, l.length, cap, h0, h1, a0, a1, a2, a3, ⟨ao, cap, rfl, hs', hl', hc', hr'⟩⟩
theorem Bt.below {w w' : World} {g o : Nat} {x : Sd} {tk tn : Int} {ts : ByteArray} {tao : Option Addr} {tlen tcap : Nat} (h : Bt w g o x tk tn ts tao tlen tcap) (hb : Below w.heap.size w w') : Bt w' g o x tk tn ts tao tlen tcap := by
  have k : ∀ {o v}, w.cell? ⟨g, o, none⟩ = some v → w'.cell? ⟨g, o, none⟩ = some v := fun {o v} hv => by rw [hb.cell (p := ⟨g, o, none⟩) (World.block_lt_of_cell? w _ hv)]; exact hv
  exact ⟨k h.c0, k h.c1, k h.c2, k h.c3, k h.c4, k h.c5, nf_below h.t hb⟩
theorem gl_bt {w : World} {l : List Sd} {bs : List Nat} {a : Option Addr} (h : GL eltS w l bs a) (j : Nat) (hj : j < l.length) : ∃ g o, a = some ⟨g, o, none⟩ ∧ ∃ tk tn ts tao tlen tcap, Bt w g (o + j * 6) l[j] tk tn ts tao tlen tcap := by
  rcases h with ⟨rfl, _⟩ | ⟨hl, g, o, b, _, e2, _, hr⟩
  · simp at hj
  · obtain ⟨bt, _, he⟩ := hr.at j hj
    exact ⟨g, o, e2, elt_bt he⟩

/-! ### The draws -/
/-- One timer of a row is laid down anew. -/
theorem row_set {w : World} {l : List Sd} {e : List Nat} {g : Nat} (hg : GL eltS w l e (some ⟨g, 0, none⟩)) (hnd : e.Nodup) (y : Nat) (hy : y < l.length) {x : Sd} {bx : List Nat} {tk tn : Int} {ts : ByteArray} {tao : Option Addr} {tlen tcap : Nat}
    (hx : OsV w bx x.t (.agg #[.int .i64 tk, .int .i64 tn, .string ts, .slice tao tlen tcap])) (hgx : g ∉ bx) :
    RowS (w.setCells g (y * 6) [.int .i64 x.kind, .int .i64 x.pid, .int .i64 tk, .int .i64 tn, .string ts, .slice tao tlen tcap]) (some ⟨g, 0, none⟩) (l.set y x) := by
  rcases hg with ⟨rfl, _⟩ | ⟨hl, g', o', b, rfl, e2, hf, hr⟩
  · simp at hy
  injection e2 with e2
  injection e2 with e3 e4 _
  subst e3
  subst e4
  rw [List.nodup_cons] at hnd
  obtain ⟨bt0, _, he0'⟩ := hr.at y hy
  have he0 : eltS.E w l[y] bt0 g (0 + y * 6) := he0'
  obtain ⟨k1, n1, s1, ao1, len1, cap1, hb0⟩ := elt_bt he0
  have hin := World.cell?_setCells_in g [.int .i64 x.kind, .int .i64 x.pid, .int .i64 tk, .int .i64 tn, .string ts, .slice tao tlen tcap] (y * 6) w (fun j hj => by
    have hj' : j < 6 := hj
    have h0 := hb0.c0
    have h1 := hb0.c1
    have h2 := hb0.c2
    have h3 := hb0.c3
    have h4 := hb0.c4
    have h5 := hb0.c5
    rw [Nat.zero_add] at h0 h1 h2 h3 h4 h5
    have : j = 0 ∨ j = 1 ∨ j = 2 ∨ j = 3 ∨ j = 4 ∨ j = 5 := by omega
    rcases this with rfl | rfl | rfl | rfl | rfl | rfl
    · rw [Nat.add_zero, h0]; rfl
    · rw [h1]; rfl
    · rw [h2]; rfl
    · rw [h3]; rfl
    · rw [h4]; rfl
    · rw [h5]; rfl)
  have hbk : ∀ z, z ≠ g → (w.setCells g (y * 6) [.int .i64 x.kind, .int .i64 x.pid, .int .i64 tk, .int .i64 tn, .string ts, .slice tao tlen tcap]).heap[z]? = w.heap[z]? := fun z hz => setCells_blk hz _ _ _
  refine .inr ⟨g, 0, rfl, fun j hj => ?_⟩
  rw [List.length_set] at hj
  by_cases hjy : j = y
  · subst hjy
    have hE : eltS.E (w.setCells g (j * 6) [.int .i64 x.kind, .int .i64 x.pid, .int .i64 tk, .int .i64 tn, .string ts, .slice tao tlen tcap]) x bx g (0 + j * 6) := (ve_timer hx).2.2 _ g (0 + j * 6) (fun i v hv => by
      rw [Nat.zero_add]
      have hi : i < 6 := (List.getElem?_eq_some_iff.1 hv).1
      have h := hin i hi
      rw [h, ← hv, List.getElem?_eq_getElem hi]) (fun z hz => hbk z (fun q => hgx (by rw [← q]; exact hz)))
    obtain ⟨p, q, r⟩ := hE
    rw [List.getElem_set_self]
    exact ⟨p, q, OsT.rep _ _ _ _ r⟩
  · obtain ⟨bt, hbt, he'⟩ := hr.at j hj
    have he : eltS.E w l[j] bt g (0 + j * 6) := he'
    have hE := eltS.keep (w' := w.setCells g (y * 6) [.int .i64 x.kind, .int .i64 x.pid, .int .i64 tk, .int .i64 tn, .string ts, .slice tao tlen tcap]) (fun z hz _ => hbk z (fun q => hnd.1 (by rw [← q]; exact hbt z hz))) (fun i v hi hv => by
      have hi' : i < 6 := hi
      rw [World.cell?_setCells_out g [.int .i64 x.kind, .int .i64 x.pid, .int .i64 tk, .int .i64 tn, .string ts, .slice tao tlen tcap] (y * 6) w ⟨g, 0 + j * 6 + i, none⟩ (fun _ _ => by show 0 + j * 6 + i < y * 6 ∨ y * 6 + 6 ≤ 0 + j * 6 + i; omega)]; exact hv) he
    obtain ⟨p, q, r⟩ := hE
    rw [List.getElem_set_ne (by omega)]
    exact ⟨p, q, OsT.rep _ _ _ _ r⟩
end Go.Proofs.YtfjaphhijefdlaaGreatDoor.Tv
namespace Go.Proofs.YtfjaphhijefdlaaGreatDoor
open Go.RowKit Atom
set_option linter.unusedVariables false

theorem bundrewN {W w3 : World} (hb : Below W.drew.heap.size W.drew w3) : Below W.heap.size W w3 := ⟨hb.os, hb.tape, hb.output, hb.size, hb.block⟩
theorem own_lenN {w : World} {B e z : Nat} {v : Value} {n k : Nat} {xs : List Value} (h : w.ownsRow B e z v n xs) (hn : n = k) : w.ownsRow B e z v k xs := by subst hn; exact h
theorem movesBelN {S : Nat → Prop} {w w' : World} (h : Below w.heap.size w w') : Moves (fun b => S b ∧ Nf w b) (fun b => S b ∧ Nf w' b) w w' :=
  (Moves.below h).nf (fun b o v hb hc hq => hq.blk (h.block b (World.block_lt_of_cell? w _ hc)))
theorem osT_rpN {w : World} {lo : Nat} : ∀ t : Tm, ∀ bs b off, (∀ x ∈ bs, lo ≤ x) → OsT w t bs b off → RpT (fun b => lo ≤ b ∧ Nf w b) w t b off := by
  refine Tm.ind ?_
  intro k n s l ih bs b off hb h
  rw [OsT] at h
  rw [RpT]
  obtain ⟨h0, h1, h2, hs, ao, cap, h3, hl, hc, hr⟩ := h
  refine ⟨h0, h1, h2, by unfold maxLen; omega, ao, cap, h3, hl, hc, ?_⟩
  have go : ∀ (m : List Tm), (∀ t, t ∈ m → ∀ bs b off, (∀ x ∈ bs, lo ≤ x) → OsT w t bs b off → RpT (fun b => lo ≤ b ∧ Nf w b) w t b off) → ∀ bs g o, (lo ≤ g ∧ Nf w g) → (∀ x ∈ bs, lo ≤ x) → OsR w m bs g o → RpL (fun b => lo ≤ b ∧ Nf w b) w m (some ⟨g, o, none⟩) := by
    intro m
    induction m with
    | nil => intro _ _ _ _ _ _ _; rw [RpL]; trivial
    | cons t r ihr =>
      intro hm bs g o hg hb hq
      rw [OsR] at hq
      obtain ⟨b1, b2, rfl, q1, q2⟩ := hq
      rw [RpL]
      exact ⟨g, o, rfl, hg, hm t (List.mem_cons_self ..) _ _ _ (fun x hx => hb x (List.mem_append_left _ hx)) q1, ihr (fun x hx => hm x (List.mem_cons_of_mem _ hx)) _ _ _ hg (fun x hx => hb x (List.mem_append_right _ hx)) q2⟩
  by_cases hn : l = []
  · subst hn; rw [RpL]; trivial
  · obtain ⟨g, o, bb, rfl, rfl, hf, hq⟩ := (OsL.iff hn).1 hr
    exact go l ih bb g o ⟨hb g (List.mem_cons_self ..), hf⟩ (fun x hx => hb x (List.mem_cons_of_mem _ hx)) hq
theorem osV_rpN {w : World} {lo : Nat} {t : Tm} {bs : List Nat} {v : Value} (hb : ∀ x ∈ bs, lo ≤ x) (h : OsV w bs t v) : RpV (fun b => lo ≤ b ∧ Nf w b) w t v := by
  obtain ⟨k, n, s, l⟩ := t
  obtain ⟨ao, cap, e, hs, hl, hc, hr⟩ := h
  refine ⟨ao, cap, e, by unfold maxLen; omega, hl, hc, ?_⟩
  by_cases hn : l = []
  · subst hn; rw [RpL]; trivial
  · obtain ⟨g, o, bb, rfl, rfl, hf, hq⟩ := (OsL.iff hn).1 hr
    have hg : lo ≤ g ∧ Nf w g := ⟨hb g (List.mem_cons_self ..), hf⟩
    have hbb : ∀ x ∈ bb, lo ≤ x := fun x hx => hb x (List.mem_cons_of_mem _ hx)
    have go : ∀ (m : List Tm) bs o, (∀ x ∈ bs, lo ≤ x) → OsR w m bs g o → RpL (fun b => lo ≤ b ∧ Nf w b) w m (some ⟨g, o, none⟩) := by
      intro m
      induction m with
      | nil => intro _ _ _ _; rw [RpL]; trivial
      | cons t r ihr =>
        intro bs o hb hq
        rw [OsR] at hq
        obtain ⟨b1, b2, rfl, q1, q2⟩ := hq
        rw [RpL]
        exact ⟨g, o, rfl, hg, osT_rpN t _ _ _ (fun x hx => hb x (List.mem_append_left _ hx)) q1, ihr _ _ (fun x hx => hb x (List.mem_append_right _ hx)) q2⟩
    exact go l bb o hbb hq

theorem l9Int_anyN (n : Int) (w : World) : Calls Tryz.prog 24 #[.int .i64 n] w fun e w' => e = .returned (.agg #[.int .i64 1, .int .i64 n, .string ⟨#[]⟩, .slice none 0 0]) ∧ Below w.heap.size w w' := by
  go_enter Tryz.func24, Tryz.ntmps24
  go_wp2
  refine bodyPost_ret (v := .agg #[.int .i64 1, .int .i64 n, .string ⟨#[]⟩, .slice none 0 0]) (by simp [results, Tryz.results24, go_sem]) rfl ⟨rfl, ?_⟩
  exact (Below.refl _ _).alloc (Nat.le_refl _) _

structure Sq (w wr : World) (A R B : Nat) (pid pc : Int) (l : List Tm) (u : Value) (xs : List Value) : Prop where
  be : Below w.heap.size w wr
  a0 : wr.cell? ⟨A, 0, none⟩ = some (.int .i64 pid)
  a1 : wr.cell? ⟨A, 1, none⟩ = some (.int .i64 pc)
  a2 : wr.cell? ⟨A, 2, none⟩ = some u
  a3 : wr.cell? ⟨A, 3, none⟩ = some (.slice none 0 0)
  a4 : wr.cell? ⟨A, 4, none⟩ = some (.slice none 0 0)
  af : ∀ o, wr.frozen? ⟨A, o, none⟩ = false
  r : ∀ j, j < 5 → ∃ v, wr.cell? ⟨R, j, none⟩ = some v
  rf : ∀ o, wr.frozen? ⟨R, o, none⟩ = false
  own : wr.ownsRow B 26 4 u l.length xs
  row : Row (fun b => (B ≤ b ∧ b ≠ A ∧ u.ownBlock ≠ some b) ∧ Nf wr b) wr l xs
  uA : u.ownBlock ≠ some A
  lR : w.heap.size ≤ R
  lRB : R < B
  lA : B ≤ A
theorem Sq.call {w wr w1 : World} {A R B : Nat} {pid pc : Int} {l : List Tm} {u : Value} {xs : List Value} (h : Sq w wr A R B pid pc l u xs) (hd : Below wr.heap.size wr w1) : Sq w w1 A R B pid pc l u xs := by
  have hg : wr.grownBy w1 none := ⟨hd.os, hd.tape, hd.output, hd.size, fun k hk _ => hd.block k hk⟩
  have cc : ∀ b o v, wr.cell? ⟨b, o, none⟩ = some v → w1.cell? ⟨b, o, none⟩ = some v := fun b o v hv => by rw [hd.cell (p := ⟨b, o, none⟩) (World.block_lt_of_cell? wr _ hv)]; exact hv
  have hAl := World.block_lt_of_cell? wr _ h.a0
  obtain ⟨v0, hv0⟩ := h.r 0 (by omega)
  have hRl := World.block_lt_of_cell? wr _ hv0
  exact ⟨h.be.trans (hd.mono h.be.size), cc _ _ _ h.a0, cc _ _ _ h.a1, cc _ _ _ h.a2, cc _ _ _ h.a3, cc _ _ _ h.a4, fun o => by rw [hd.frozen (p := ⟨A, o, none⟩) hAl]; exact h.af o, fun j hj => by obtain ⟨v, hv⟩ := h.r j hj; exact ⟨v, cc _ _ _ hv⟩, fun o => by rw [hd.frozen (p := ⟨R, o, none⟩) hRl]; exact h.rf o, h.own.kept hg (by by_cases e : u.ownBlock = none; exact Or.inl e; exact Or.inr e), ⟨h.row.1, fun i hi => (h.row.2 i hi).move (movesBelN hd)⟩, h.uA, h.lR, h.lRB, h.lA⟩
theorem Sq.form {w wr : World} {A R B : Nat} {pid pc : Int} {l : List Tm} {u : Value} {xs : List Value} (h : Sq w wr A R B pid pc l u xs) : ∃ a c, u = .slice a l.length c := by
  obtain ⟨_, hh | ⟨g, c, cur, e1, _⟩⟩ := h.own
  · exact ⟨none, 0, by rw [hh.1, hh.2]⟩
  · exact ⟨_, c, e1⟩
theorem Sq.grown {w w1 w2 : World} {A R B : Nat} {pid pc : Int} {l : List Tm} {u : Value} {xs : List Value} (h : Sq w w1 A R B pid pc l u xs) {o : Obj} (hgrow : (w1.alloc o).grownBy w2 u.ownBlock) : w2.cell? ⟨A, 2, none⟩ = some u ∧ w2.frozen? ⟨A, 2, none⟩ = false := by
  have hs1 : (w1.alloc o).heap.size = w1.heap.size + 1 := World.size_alloc _ _
  have hl : A < w1.heap.size := World.block_lt_of_cell? w1 _ h.a0
  have hne : some A ≠ u.ownBlock := fun e => h.uA e.symm
  rw [hgrow.cell_far ⟨A, 2, none⟩ (by rw [hs1]; exact Nat.lt_succ_of_lt hl) hne, hgrow.frozen_far ⟨A, 2, none⟩ (by rw [hs1]; exact Nat.lt_succ_of_lt hl) hne, World.cell?_alloc_lt (h := hl), World.frozen?_alloc_old (h := by show A ≠ _; omega)]
  exact ⟨h.a2, h.af 2⟩
theorem Sq.more {w w1 w2 : World} {A R B : Nat} {pid pc : Int} {l : List Tm} {u : Value} {xs : List Value} (h1 : Sq w w1 A R B pid pc l u xs) {o : Obj}
    {g cap' : Nat} (hown : w2.ownsRow B 26 4 (.slice (some ⟨g, 0, none⟩) (l.length + 1) cap') (l.length + 1) (xs ++ eV)) (hgrow : (w1.alloc o).grownBy w2 u.ownBlock) (hat : u.ownBlock = some g ∨ g = w1.heap.size + 1) :
    Sq w (w2.setCell ⟨A, 2, none⟩ (.slice (some ⟨g, 0, none⟩) (l.length + 1) cap')) A R B pid pc (l ++ [e0T]) (.slice (some ⟨g, 0, none⟩) (l.length + 1) cap') (xs ++ eV) := by
  have hs1 : (w1.alloc o).heap.size = w1.heap.size + 1 := World.size_alloc _ _
  have hcell : ∀ p o' v, some p ≠ u.ownBlock → w1.cell? ⟨p, o', none⟩ = some v → w2.cell? ⟨p, o', none⟩ = some v := fun p o' v hp hc => by
    have hpl := World.block_lt_of_cell? w1 _ hc
    rw [hgrow.cell_far ⟨p, o', none⟩ (by rw [hs1]; exact Nat.lt_succ_of_lt hpl) hp, World.cell?_alloc_lt (h := hpl)]; exact hc
  have hfroz : ∀ p o', p < w1.heap.size → some p ≠ u.ownBlock → w2.frozen? ⟨p, o', none⟩ = w1.frozen? ⟨p, o', none⟩ := fun p o' hpl hp => by
    rw [hgrow.frozen_far ⟨p, o', none⟩ (by rw [hs1]; exact Nat.lt_succ_of_lt hpl) hp, World.frozen?_alloc_old (h := by show p ≠ _; omega)]
  have hset : ∀ p o' v, (p ≠ A ∨ o' ≠ 2) → w2.cell? ⟨p, o', none⟩ = some v → (w2.setCell ⟨A, 2, none⟩ (.slice (some ⟨g, 0, none⟩) (l.length + 1) cap')).cell? ⟨p, o', none⟩ = some v := fun p o' v hp hc => by
    rw [World.cell?_setCell_other (h := fun e => by simp at e; omega)]; exact hc
  have hAl : A < w1.heap.size := World.block_lt_of_cell? w1 _ h1.a0
  obtain ⟨v0, hv0⟩ := h1.r 0 (by omega)
  have hRl : R < w1.heap.size := World.block_lt_of_cell? w1 _ hv0
  have hlow : ∀ k, k < B → some k ≠ u.ownBlock := fun k hk e => by have := (h1.own.lt k e.symm).1; omega
  have hA : some A ≠ u.ownBlock := fun e => h1.uA e.symm
  have hRA : R ≠ A := by have := h1.lRB; have := h1.lA; omega
  have hR := hlow R h1.lRB
  have hgA : (Value.slice (some ⟨g, 0, none⟩) (l.length + 1) cap').ownBlock ≠ some A := fun e => by
    simp only [Value.ownBlock, Option.some.injEq] at e
    rcases hat with hat | hat
    · exact h1.uA (by rw [hat, e])
    · omega
  have hmv0 : Moves (fun b => B ≤ b ∧ b ≠ A ∧ u.ownBlock ≠ some b) (fun b => B ≤ b ∧ b ≠ A ∧ (Value.slice (some ⟨g, 0, none⟩) (l.length + 1) cap').ownBlock ≠ some b) w1 (w2.setCell ⟨A, 2, none⟩ (.slice (some ⟨g, 0, none⟩) (l.length + 1) cap')) := fun p o' v hp hc => by
    have hpl := World.block_lt_of_cell? w1 _ hc
    refine ⟨⟨hp.1, hp.2.1, fun e => ?_⟩, hset p o' v (Or.inl hp.2.1) (hcell p o' v (fun e => hp.2.2 e.symm) hc)⟩
    simp only [Value.ownBlock, Option.some.injEq] at e
    subst e
    rcases hat with hat | hat
    · exact hp.2.2 hat
    · have : g < w1.heap.size := hpl
      omega
  have hmv := hmv0.nf (fun b o v hs hc (hn : Nf w1 b) => (fun o' => by rw [World.frozen?_setCell, hfroz b o' (World.block_lt_of_cell? w1 _ hc) (fun e => hs.2.2 e.symm)]; exact hn o' : Nf (w2.setCell ⟨A, 2, none⟩ (.slice (some ⟨g, 0, none⟩) (l.length + 1) cap')) b))
  have hv0 : RpV (fun b => (B ≤ b ∧ b ≠ A ∧ (Value.slice (some ⟨g, 0, none⟩) (l.length + 1) cap').ownBlock ≠ some b) ∧ Nf (w2.setCell ⟨A, 2, none⟩ (.slice (some ⟨g, 0, none⟩) (l.length + 1) cap')) b) (w2.setCell ⟨A, 2, none⟩ (.slice (some ⟨g, 0, none⟩) (l.length + 1) cap')) e0T (.agg #[.int .i64 1, .int .i64 0, .string ⟨#[]⟩, .slice none 0 0]) :=
    ⟨none, 0, rfl, by show 0 ≤ _; omega, Nat.le_refl _, Nat.zero_le _, by rw [RpL]; trivial⟩
  have hwl := h1.be.size
  refine ⟨?_, hset _ _ _ (Or.inr (by omega)) (hcell _ _ _ hA h1.a0), hset _ _ _ (Or.inr (by omega)) (hcell _ _ _ hA h1.a1), World.cell?_setCell_same w2 _ _ (hcell _ _ _ hA h1.a2), hset _ _ _ (Or.inr (by omega)) (hcell _ _ _ hA h1.a3), hset _ _ _ (Or.inr (by omega)) (hcell _ _ _ hA h1.a4), fun o' => ?_, fun j hj => ?_, fun o' => ?_, ?_, Row.snoc hmv h1.row hv0, hgA, h1.lR, h1.lRB, h1.lA⟩
  · have hk : ∀ k, k < w.heap.size → (w2.setCell ⟨A, 2, none⟩ (.slice (some ⟨g, 0, none⟩) (l.length + 1) cap')).heap[k]? = w1.heap[k]? := fun k hk => by
      have h5 := h1.lR
      have h6 := h1.lRB
      have h7 := h1.lA
      rw [Below.heap_setCell w2 ⟨A, 2, none⟩ _ k (by show k ≠ A; omega), hgrow.block k (by rw [hs1]; omega) (hlow k (by omega))]
      show (w1.heap.push _)[k]? = _
      rw [Array.getElem?_push, if_neg (by omega)]
    have hsz := hgrow.size
    rw [hs1] at hsz
    exact ⟨hgrow.os.trans h1.be.os, hgrow.tape.trans h1.be.tape, hgrow.output.trans h1.be.output, by rw [World.size_setCell]; omega, fun k hkl => (hk k hkl).trans (h1.be.block k hkl)⟩
  · rw [World.frozen?_setCell, hfroz A o' hAl hA]; exact h1.af o'
  · obtain ⟨v, hv'⟩ := h1.r j hj
    exact ⟨v, hset _ _ _ (Or.inl hRA) (hcell _ _ _ hR hv')⟩
  · rw [World.frozen?_setCell, hfroz R o' hRl hR]; exact h1.rf o'
  · rw [List.length_append]
    exact ownsRow_set9 hown hgA _
theorem Sq.start {w w2 : World} {t : Tm} {pid pc : Int} {a b c d : Value} (hb : Below w.heap.size w w2) (hz : w.heap.size + 2 ≤ w2.heap.size) (hr : ∀ j, j < 5 → ∃ v, w2.cell? ⟨w.heap.size + 1, j, none⟩ = some v) (hrf : ∀ o, w2.frozen? ⟨w.heap.size + 1, o, none⟩ = false) (hv : RpV (fun x => w.heap.size + 2 ≤ x ∧ Nf w2 x) w2 t (.agg #[a, b, c, d])) :
    Sq w ((w2.alloc (.cells #[a, b, c, d] 26)).alloc (.cells #[.int .i64 pid, .int .i64 pc, .slice (some ⟨w2.heap.size, 0, none⟩) 1 1, .slice none 0 0, .slice none 0 0] 31)) (w2.heap.size + 1) (w.heap.size + 1) (w.heap.size + 2) pid pc [t] (.slice (some ⟨w2.heap.size, 0, none⟩) 1 1) [a, b, c, d] := by
  obtain ⟨X, hX⟩ : ∃ X, X = (w2.alloc (.cells #[a, b, c, d] 26)).alloc (.cells #[.int .i64 pid, .int .i64 pc, .slice (some ⟨w2.heap.size, 0, none⟩) 1 1, .slice none 0 0, .slice none 0 0] 31) := ⟨_, rfl⟩
  rw [← hX]
  have e1 : (w2.alloc (.cells #[a, b, c, d] 26)).heap.size = w2.heap.size + 1 := by simp
  have hbX : Below w2.heap.size w2 X := by rw [hX]; exact ((Below.refl _ _).alloc (Nat.le_refl _) _).alloc (by simp) _
  have qA : ∀ o, X.cell? ⟨w2.heap.size + 1, o, none⟩ = (#[.int .i64 pid, .int .i64 pc, .slice (some ⟨w2.heap.size, 0, none⟩) 1 1, .slice none 0 0, .slice none 0 0] : Array Value)[o]? := fun o => by
    rw [hX, ← e1, World.cell?_alloc_new]
  have hg : X.heap[w2.heap.size]? = some (.cells #[a, b, c, d] 26 (0, 0)) := by
    rw [hX]
    show ((w2.heap.push _).push _)[w2.heap.size]? = _
    rw [Array.getElem?_push, if_neg (by simp), Array.getElem?_push, if_pos rfl]
  refine ⟨hb.trans (hbX.mono hb.size), qA 0, qA 1, qA 2, qA 3, qA 4, fun o => ?_, fun j hj => ?_, fun o => ?_, ⟨rfl, Or.inr ⟨w2.heap.size, 1, #[a, b, c, d], rfl, hz, hg, Nat.le_refl _, by unfold maxLen; omega, rfl, rfl⟩⟩, ?_, fun e => by simp only [Value.ownBlock, Option.some.injEq] at e; omega, by omega, by omega, by omega⟩
  · rw [hX, ← e1, World.frozen?_alloc_new]
  · obtain ⟨v, hv'⟩ := hr j hj
    exact ⟨v, keepA hbX hv'⟩
  · rw [hbX.frozen (p := ⟨w.heap.size + 1, o, none⟩) (by show w.heap.size + 1 < _; omega)]; exact hrf o
  · refine Row.snoc (S := fun b => False) (w := X) (l := []) (xs := []) (fun b o v hb _ => hb.elim) (Row.nil _ _) (Moves.repV (S := fun x => w.heap.size + 2 ≤ x ∧ Nf w2 x) (w := w2) (fun p o v hp hc => ?_) hv)
    have hpl : p < w2.heap.size := World.block_lt_of_cell? w2 _ hc
    have hp1 : w.heap.size + 2 ≤ p := hp.1
    exact ⟨⟨⟨hp1, by omega, fun e => by simp only [Value.ownBlock, Option.some.injEq] at e; omega⟩, hp.2.blk (hbX.block p hpl)⟩, keepA hbX hc⟩
theorem Sq.done {w wr : World} {A R B : Nat} {pid pc : Int} {l : List Tm} {u : Value} {xs : List Value} (h : Sq w wr A R B pid pc l u xs) (r0 r1 r2 r3 r4 : Value) :
    (∃ ao cap, u = .slice ao l.length cap ∧ l.length ≤ cap ∧ cap ≤ maxLen ∧ RpL (fun b => w.heap.size ≤ b ∧ Nf (set5 wr R r0 r1 r2 r3 r4) b) (set5 wr R r0 r1 r2 r3 r4) l ao) ∧ Below w.heap.size w (set5 wr R r0 r1 r2 r3 r4) := by
  have h5 := h.lR
  have h6 := h.lRB
  obtain ⟨ao', cap', rfl, hl, hc, hr⟩ := h.row.repL (S' := fun b => B ≤ b ∧ Nf wr b) (fun b hb => ⟨hb.1.1, hb.2⟩) h.own (fun g hg => ⟨(h.own.lt g hg).1, nf_own h.own hg⟩)
  refine ⟨⟨ao', cap', rfl, hl, hc, ?_⟩, ((((h.be.setCell h5 _).setCell h5 _).setCell h5 _).setCell h5 _).setCell h5 _⟩
  refine Moves.repL (S := fun b => B ≤ b ∧ Nf wr b) (fun b o v hb hv => ?_) _ _ hr
  have hb' : B ≤ b := hb.1
  have hbR : b ≠ R := by omega
  exact ⟨⟨by omega, hb.2.blk (set5_blk hbR)⟩, by rw [World.cell?_of_block (w := wr) (a := ⟨b, o, none⟩) (set5_blk hbR)]; exact hv⟩

set_option maxHeartbeats 2000000 in
set_option maxRecDepth 100000 in
theorem specNew_nf (pid pc : Int) (t : Tm) (v : Value) (w : World) (h : RepV 0 w t v) (hst : StS t) :
    Calls Tryz.prog 8 #[.int .i64 pid, .int .i64 pc, v] w fun e w' => ∃ ra rc, e = .returned (.agg #[.int .i64 (nwI pid pc t pid), .int .i64 (nwI pid pc t pc), .slice ra (nwR pid pc t).length rc, .slice none 0 0, .slice none 0 0]) ∧ (nwR pid pc t).length ≤ rc ∧ rc ≤ maxLen ∧ RpL (fun b => w.heap.size ≤ b ∧ Nf w' b) w' (nwR pid pc t) ra ∧ Below w.heap.size w w' := by
  obtain ⟨va, vb, vc, vd, ve, vf, rfl⟩ := h.form
  obtain ⟨W, hW⟩ : ∃ W, W = (w.alloc (.cells #[.int .i64 va, .int .i64 vb, .string vc, .slice vd ve vf] 26)).alloc (.cells #[.int .i64 0, .int .i64 0, .slice none 0 0, .slice none 0 0, .slice none 0 0] 31) := ⟨_, rfl⟩
  have hbW : Below w.heap.size w W := by rw [hW]; exact ((Below.refl _ _).alloc (Nat.le_refl _) _).alloc (by simp) _
  have hzW : W.heap.size = w.heap.size + 2 := by rw [hW]; simp
  have qa : ∀ o, W.cell? ⟨w.heap.size, o, none⟩ = (#[.int .i64 va, .int .i64 vb, .string vc, .slice vd ve vf] : Array Value)[o]? := fun o => by
    rw [hW, World.cell?_alloc_lt (h := by simp), World.cell?_alloc_new]
  have qr : ∀ o, W.cell? ⟨w.heap.size + 1, o, none⟩ = (#[.int .i64 0, .int .i64 0, .slice none 0 0, .slice none 0 0, .slice none 0 0] : Array Value)[o]? := fun o => by
    have e1 : (w.alloc (.cells #[.int .i64 va, .int .i64 vb, .string vc, .slice vd ve vf] 26)).heap.size = w.heap.size + 1 := by simp
    rw [hW, ← e1, World.cell?_alloc_new]
  have fr : ∀ o, W.frozen? ⟨w.heap.size + 1, o, none⟩ = false := fun o => by
    have e1 : (w.alloc (.cells #[.int .i64 va, .int .i64 vb, .string vc, .slice vd ve vf] 26)).heap.size = w.heap.size + 1 := by simp
    rw [hW, ← e1, World.frozen?_alloc_new]
  have HR : Hid (RepV 0 w t (.agg #[.int .i64 va, .int .i64 vb, .string vc, .slice vd ve vf])) := h
  have HST : Hid (StS t) := hst
  have HBW : Hid (Below w.heap.size w W) := hbW
  have HQ : Hid (∀ w1, Below W.heap.size W w1 → (∀ o, w1.cell? ⟨w.heap.size, o, none⟩ = (#[.int .i64 va, .int .i64 vb, .string vc, .slice vd ve vf] : Array Value)[o]?) ∧ (∀ o, w1.cell? ⟨w.heap.size + 1, o, none⟩ = (#[.int .i64 0, .int .i64 0, .slice none 0 0, .slice none 0 0, .slice none 0 0] : Array Value)[o]?) ∧ (∀ o, w1.frozen? ⟨w.heap.size + 1, o, none⟩ = false)) := fun w1 hb =>
    ⟨fun o => by rw [hb.cell (p := ⟨w.heap.size, o, none⟩) (by show w.heap.size < _; omega)]; exact qa o, fun o => by rw [hb.cell (p := ⟨w.heap.size + 1, o, none⟩) (by show w.heap.size + 1 < _; omega)]; exact qr o, fun o => by rw [hb.frozen (p := ⟨w.heap.size + 1, o, none⟩) (by show w.heap.size + 1 < _; omega)]; exact fr o⟩
  have HOK : Hid (∀ w1, Below W.heap.size W w1 → Calls Tryz.prog 22 #[.agg #[.int .i64 va, .int .i64 vb, .string vc, .slice vd ve vf]] w1 fun e w2 => e = .returned (.bool (okT t)) ∧ Below W.heap.size W w2) := fun w1 hb =>
    (specOk_any t 0 w1 _ ((Keeps.below (hbW.trans (hb.mono hbW.size)) 0).repV h)).mono fun e w2 ⟨h1, h2⟩ => ⟨h1, hb.trans (h2.mono hb.size)⟩
  have HCP : Hid (∀ w1, Below W.heap.size W w1 → Calls Tryz.prog 23 #[.agg #[.int .i64 va, .int .i64 vb, .string vc, .slice vd ve vf]] w1 fun e w2 => ∃ v', e = .returned v' ∧ RpV (fun b => w1.heap.size ≤ b ∧ Nf w2 b) w2 t v' ∧ Below w1.heap.size w1 w2) := fun w1 hb =>
    (czO_all t w1 _ ((Keeps.below (hbW.trans (hb.mono hbW.size)) 0).repV h) hst).mono fun e w2 ⟨v', h1, ⟨bs, h2, _, h3⟩, h4⟩ => ⟨v', h1, osV_rpN h3 h2, h4⟩
  have HZW : Hid (W.heap.size = w.heap.size + 2) := hzW
  clear h hst hbW hzW qa qr fr
  have HFIN : Hid (∀ w1 a b c, Below W.heap.size W w1 → Below w.heap.size w (((((w1.setCell ⟨w.heap.size + 1, 0, none⟩ a).setCell ⟨w.heap.size + 1, 1, none⟩ b).setCell ⟨w.heap.size + 1, 2, none⟩ c).setCell ⟨w.heap.size + 1, 3, none⟩ (.slice none 0 0)).setCell ⟨w.heap.size + 1, 4, none⟩ (.slice none 0 0))) := fun w1 a b c hb =>
    (((((HBW.out.trans (hb.mono HBW.out.size)).setCell (by show w.heap.size ≤ w.heap.size + 1; omega) _).setCell (by show w.heap.size ≤ w.heap.size + 1; omega) _).setCell (by show w.heap.size ≤ w.heap.size + 1; omega) _).setCell (by show w.heap.size ≤ w.heap.size + 1; omega) _).setCell (by show w.heap.size ≤ w.heap.size + 1; omega) _
  go_enter Tryz.func8, Tryz.ntmps8
  go_wp2_with (go_at_call 21; fail)
  rw [← hW]
  clear hW
  refine (Atom.in_any _ _ _ _).mono ?_
  rintro e w' ⟨rfl, hw'⟩
  obtain rfl := hw'.symm
  obtain ⟨qa, qr, fr⟩ := HQ.out W (Below.refl _ _)
  have hpq : Atom.inB pid 1 99999 = pidB pid := rfl
  rw [hpq]
  clear hpq
  cases hp : pidB pid
  · have hno : nwB pid pc t = false := by unfold nwB; rw [hp]; rfl
    obtain ⟨n1, n2⟩ := nw_no hno
    go_wp2_with fail
    refine bodyPost_ret (v := .agg #[.int .i64 0, .int .i64 0, .slice none 0 0, .slice none 0 0, .slice none 0 0]) (by simp [results, Tryz.results8, go_sem, qr]) rfl ?_
    rw [n1, n2, n2]
    exact ⟨none, 0, rfl, Nat.le_refl _, Nat.zero_le _, by rw [RpL]; trivial, HFIN.out W _ _ _ (Below.refl _ _)⟩
  · by_cases hpc : pc < 0
    · have hno : nwB pid pc t = false := by unfold nwB; rw [decide_eq_false (by omega)]; simp
      obtain ⟨n1, n2⟩ := nw_no hno
      go_wp2_with fail
      refine bodyPost_ret (v := .agg #[.int .i64 0, .int .i64 0, .slice none 0 0, .slice none 0 0, .slice none 0 0]) (by simp [results, Tryz.results8, go_sem, qr]) rfl ?_
      rw [n1, n2, n2]
      exact ⟨none, 0, rfl, Nat.le_refl _, Nat.zero_le _, by rw [RpL]; trivial, HFIN.out W _ _ _ (Below.refl _ _)⟩
    · go_wp2_with (go_at_call 22; fail)
      refine (HOK.out W (Below.refl _ _)).mono ?_
      rintro e w1 ⟨he, hb1⟩
      have HB1 : Hid (Below W.heap.size W w1) := hb1
      clear qa qr fr
      obtain ⟨qa, qr, fr⟩ := HQ.out w1 hb1
      clear hb1
      cases hok : okT t
      · rw [hok] at he
        subst he
        have hno : nwB pid pc t = false := by unfold nwB; rw [hok]; simp
        obtain ⟨n1, n2⟩ := nw_no hno
        go_wp2_with fail
        refine bodyPost_ret (v := .agg #[.int .i64 0, .int .i64 0, .slice none 0 0, .slice none 0 0, .slice none 0 0]) (by simp [results, Tryz.results8, go_sem, qr]) rfl ?_
        rw [n1, n2, n2]
        exact ⟨none, 0, rfl, Nat.le_refl _, Nat.zero_le _, by rw [RpL]; trivial, HFIN.out w1 _ _ _ HB1.out⟩
      · rw [hok] at he
        subst he
        have hyes : nwB pid pc t = true := by unfold nwB; rw [hp, hok, decide_eq_true (by omega)]; rfl
        obtain ⟨n1, n2⟩ := nw_yes hyes
        have HN1 : Hid (nwR pid pc t = t :: seven ∧ ∀ x, nwI pid pc t x = x) := ⟨n1, n2⟩
        clear hok hyes n1 n2
        go_wp2_with (go_at_call 23; fail)
        refine (HCP.out w1 HB1.out).mono ?_
        rintro e w2 ⟨v', rfl, hv2, hb2⟩
        obtain ⟨a2, b2, c2, d2, e2, f2, rfl⟩ := hv2.form
        have HB2 : Hid (Below W.heap.size W w2) := HB1.out.trans (hb2.mono HB1.out.size)
        clear qa qr fr
        obtain ⟨qa, qr, fr⟩ := HQ.out w2 HB2.out
        have hz := HZW.out
        have hz2 := HB2.out.size
        have hst0 := Sq.start (pid := pid) (pc := pc) (HBW.out.trans (HB2.out.mono HBW.out.size)) (by omega) (fun j hj => by
          rw [qr]
          match j, hj with
          | 0, _ => exact ⟨_, rfl⟩
          | 1, _ => exact ⟨_, rfl⟩
          | 2, _ => exact ⟨_, rfl⟩
          | 3, _ => exact ⟨_, rfl⟩
          | 4, _ => exact ⟨_, rfl⟩) fr ((Moves.sub (S' := fun x => w.heap.size + 2 ≤ x ∧ Nf w2 x) (fun b hb => ⟨by have h1 : w1.heap.size ≤ b := hb.1; have := HB1.out.size; omega, hb.2⟩)).repV hv2)
        have HS0 : Hid (Sq w ((w2.alloc (.cells #[.int .i64 a2, .int .i64 b2, .string c2, .slice d2 e2 f2] 26)).alloc (.cells #[.int .i64 pid, .int .i64 pc, .slice (some ⟨w2.heap.size, 0, none⟩) 1 1, .slice none 0 0, .slice none 0 0] 31)) (w2.heap.size + 1) (w.heap.size + 1) (w.heap.size + 2) pid pc [t] (.slice (some ⟨w2.heap.size, 0, none⟩) 1 1) [.int .i64 a2, .int .i64 b2, .string c2, .slice d2 e2 f2]) := hst0
        clear hst0 hv2 hb2 qa qr fr hz hz2
        obtain ⟨i0, hi, hzz0, hzz1, hzz2⟩ := infoParts9 info26
        go_wp2_with fail
        go_loopw [8] (fun v wr => ∃ (k : Nat) (u : Value) (xs : List Value), k ≤ 7 ∧ v = .int .i64 ((k + 1 : Nat) : Int) ∧ Sq w wr (w2.heap.size + 1) (w.heap.size + 1) (w.heap.size + 2) pid pc (t :: List.replicate k e0T) u xs) (fun v _ => 8 - (intOf v).toNat)
        case atStart => exact ⟨0, _, _, by omega, rfl, HS0.out⟩
        case round =>
          obtain ⟨k, u, xs, hk, rfl, hg⟩ := hrel
          obtain ⟨ua, uc, rfl⟩ := hg.form
          have hlen : (t :: List.replicate k e0T).length = k + 1 := by simp
          rw [hlen] at hg
          have HG : Hid (Sq w wr (w2.heap.size + 1) (w.heap.size + 1) (w.heap.size + 2) pid pc (t :: List.replicate k e0T) (.slice ua (k + 1) uc) xs) := hg
          have a0 := hg.a0
          have a1 := hg.a1
          have a2' := hg.a2
          have a3 := hg.a3
          have a4 := hg.a4
          have af := hg.af
          have hrf := hg.rf
          obtain ⟨r0, hr0⟩ := hg.r 0 (by decide)
          obtain ⟨r1, hr1⟩ := hg.r 1 (by decide)
          obtain ⟨r2, hr2⟩ := hg.r 2 (by decide)
          obtain ⟨r3, hr3⟩ := hg.r 3 (by decide)
          obtain ⟨r4, hr4⟩ := hg.r 4 (by decide)
          have hzr : w.heap.size + 2 ≤ wr.heap.size := by
            have h1 : w2.heap.size + 1 < wr.heap.size := World.block_lt_of_cell? wr _ a0
            have h2 := HB2.out.size
            have h3 := HZW.out
            omega
          have V1 : IntKind.i64.wrap (((k + 1 : Nat) : Int) + 1) = ((k + 1 + 1 : Nat) : Int) := by rw [IntKind.wrap_i64]; omega
          clear hg
          by_cases hlt : k < 7
          · have hlt8 : ((k + 1 : Nat) : Int) < 8 := by omega
            go_wp2_with fail
            go_region_law (first
              | (refine step_append_lies _ rfl (.tmp 33) (.tmp 35) 24 rfl (w.heap.size + 2) 26 i0 (.agg #[.int .i64 0, .int .i64 0, .string ⟨#[]⟩, .slice none 0 0]) 4 56 underlying24 hi hzz0 hzz1 hzz2 rfl (by decide) (.slice ua (k + 1) uc) (k + 1) xs (by simp [Act.eval]) (HO1.out.alloc _) ⟨w5.heap.size, 0, none⟩ 1 1 [.int .i64 1, .int .i64 0, .string ⟨#[]⟩, .slice none 0 0] (by simp [Act.eval]) rfl four_news (by intro u' hu'; simp at hu'; rcases hu' with rfl | rfl | rfl | rfl <;> rfl) (by decide) (by unfold maxLen; omega) (by omega) (by simp; omega) _ rfl ?_; intro g cap5 w6 hown6 hgrow6 hat6 hlt6; obtain ⟨t36, tf6⟩ := HG1.out.grown hgrow6)
              | (go_simp; go_wp2_with (go_at_call 24; refine (l9Int_anyN 0 _).mono ?_; rintro e w5 ⟨rfl, hd5⟩; have hd5' : Below wr.heap.size wr w5 := bundrewN hd5; have HG1 : Hid (Sq w w5 (w2.heap.size + 1) (w.heap.size + 1) (w.heap.size + 2) pid pc (t :: List.replicate k e0T) (.slice ua (k + 1) uc) xs) := HG.out.call hd5'; have HO1 : Hid (w5.ownsRow (w.heap.size + 2) 26 4 (.slice ua (k + 1) uc) (k + 1) xs) := own_lenN HG1.out.own hlen; have hz5 : wr.heap.size ≤ w5.heap.size := hd5'.size; have t35 := HG1.out.a2; have t35a : ∀ o, (w5.alloc o).cell? ⟨w2.heap.size + 1, 2, none⟩ = some (.slice ua (k + 1) uc) := (fun o => (HG1.out.call ((Below.refl _ _).alloc (Nat.le_refl _) o)).a2); have tf5 := HG1.out.af)))
            all_goals
              have HG2 := HG1.out.more (g := g) (cap' := cap5) (by rw [hlen]; exact hown6) hgrow6 (by rw [World.size_alloc] at hat6; exact hat6)
              have hcat : (t :: List.replicate k e0T) ++ [e0T] = t :: List.replicate (k + 1) e0T := by rw [List.cons_append, ← List.replicate_succ']
              rw [hlen, hcat] at HG2
              clear t36 tf6 hown6 hgrow6 hat6 hlt6 hd5 hd5' HG1 HO1 t35 t35a tf5 hlen hcat
              have HG3 : Hid (Sq w _ (w2.heap.size + 1) (w.heap.size + 1) (w.heap.size + 2) pid pc _ _ _) := HG2
              go_wp2_with fail
              go_roundw
              case rel => exact ⟨k + 1, _, _, by omega, by go_num, HG3.out⟩
              case measure => simp [intOf]; omega
          · have hk7 : k = 7 := by omega
            subst hk7
            clear hlt V1
            go_wp2_with fail
            have hd := HG.out.done (.int .i64 pid) (.int .i64 pc) (.slice ua (7 + 1) uc) (.slice none 0 0) (.slice none 0 0)
            refine bodyPost_ret (v := .agg #[.int .i64 pid, .int .i64 pc, .slice ua (7 + 1) uc, .slice none 0 0, .slice none 0 0]) (by simp [results, Tryz.results8, go_sem, hr0, hr1, hr2, hr3, hr4]) rfl ?_
            rw [HN1.out.1, HN1.out.2, HN1.out.2]
            obtain ⟨⟨ao, cap, e1, h1, h2, h3⟩, h4⟩ := hd
            simp only [Value.slice.injEq] at e1
            obtain ⟨rfl, _, rfl⟩ := e1
            exact ⟨_, _, rfl, h1, h2, h3, h4⟩
end Go.Proofs.YtfjaphhijefdlaaGreatDoor
namespace Go.Proofs.YtfjaphhijefdlaaGreatDoor.Na
open Go.RowKit Atom
set_option linter.unusedVariables false

/-! ### Lists of one's own terms are held side by side -/
theorem rpL_at {S : Nat → Prop} {w : World} : ∀ (l : List Tm) (ao : Option Addr), RpL S w l ao → ∀ i (hi : i < l.length), ∃ b off, ao = some ⟨b, off, none⟩ ∧ S b ∧ RpT S w l[i] b (off + i * 4)
  | [], _, _, i, hi => absurd hi (Nat.not_lt_zero _)
  | t :: r, ao, h, i, hi => by
    rw [RpL] at h
    obtain ⟨b, off, e, hb, ht, hr⟩ := h
    refine ⟨b, off, e, hb, ?_⟩
    cases i with
    | zero => simpa using ht
    | succ j =>
      obtain ⟨b', off', e', _, h'⟩ := rpL_at r _ hr j (by simpa using hi)
      simp only [Option.some.injEq, Addr.mk.injEq] at e'
      obtain ⟨rfl, rfl, _⟩ := e'
      have : off + (j + 1) * 4 = off + 4 + j * 4 := by omega
      rw [this]
      exact h'
theorem rpT_cells {S : Nat → Prop} {w : World} {t : Tm} {b off : Nat} (h : RpT S w t b off) :
    ∃ k n s ao len cap, w.cell? ⟨b, off, none⟩ = some (.int .i64 k) ∧ w.cell? ⟨b, off + 1, none⟩ = some (.int .i64 n) ∧ w.cell? ⟨b, off + 2, none⟩ = some (.string s) ∧ w.cell? ⟨b, off + 3, none⟩ = some (.slice ao len cap) ∧
      RpV S w t (.agg #[.int .i64 k, .int .i64 n, .string s, .slice ao len cap]) := by
  obtain ⟨k, n, s, l⟩ := t
  rw [RpT] at h
  obtain ⟨h0, h1, h2, hs, ao, cap, h3, hl, hc, hr⟩ := h
  exact ⟨k, n, s, ao, l.length, cap, h0, h1, h2, h3, ao, cap, rfl, hs, hl, hc, hr⟩
theorem rpL_bel {w w' : World} {l : List Tm} {ao : Option Addr} (h : RpL (Nf w) w l ao) (hb : Below w.heap.size w w') : RpL (Nf w') w' l ao :=
  Moves.repL (S := Nf w) (S' := Nf w') (fun b o v hs hc => ⟨hs.blk (hb.block b (World.block_lt_of_cell? w _ hc)), by rw [hb.cell (p := ⟨b, o, none⟩) (World.block_lt_of_cell? w _ hc)]; exact hc⟩) l ao h

set_option maxRecDepth 100000 in
set_option maxHeartbeats 4000000 in
theorem sameTerms_any (l : List Tm) (a b : Option Addr) (ca cb : Nat) (w : World) (ha : RpL (Nf w) w l a) (hb : RpL (Nf w) w l b) (hl : l.length ≤ 1048576) (hc : ∀ t ∈ l, cntT t ≤ 1000000000) :
    Calls Tryz.prog 20 #[.slice a l.length ca, .slice b l.length cb] w fun e w' => e = .returned (.bool true) ∧ Below w.heap.size w w' := by
  have HA : Hid (RpL (Nf w) w l a ∧ RpL (Nf w) w l b ∧ ∀ t ∈ l, cntT t ≤ 1000000000) := ⟨ha, hb, hc⟩
  clear ha hb hc
  go_enter Tryz.func20, Tryz.ntmps20
  have e0 : ((l.length : Int) != (l.length : Int)) = false := by simp
  go_wp2_with fail
  go_loopw [5] (fun i wr => ∃ j : Nat, j ≤ l.length ∧ i = .int .i64 j ∧ Below w.heap.size w wr) (fun i _ => l.length - (intOf i).toNat)
  case atStart => exact ⟨0, Nat.zero_le _, rfl, Below.refl _ _⟩
  case round =>
    obtain ⟨j, hj, rfl, hbl⟩ := hrel
    have HB : Hid (Below w.heap.size w wr) := hbl
    clear hbl
    by_cases hjl : j < l.length
    · obtain ⟨g, o, ea, _, h1⟩ := rpL_at l a (rpL_bel HA.out.1 HB.out) j hjl
      obtain ⟨g', o', eb, _, h2⟩ := rpL_at l b (rpL_bel HA.out.2.1 HB.out) j hjl
      subst ea
      subst eb
      obtain ⟨k, n, s, lo, ln, lc, b0, b1, b2, b3, hv⟩ := rpT_cells h1
      obtain ⟨k', n', s', lo', ln', lc', d0, d1, d2, d3, hv'⟩ := rpT_cells h2
      have HS : Hid (∀ x : Inn wr, Calls Tryz.prog 11 #[.agg #[.int .i64 k, .int .i64 n, .string s, .slice lo ln lc], .agg #[.int .i64 k', .int .i64 n', .string s', .slice lo' ln' lc']] x.val fun e w' => e = .returned (.bool true) ∧ Below x.val.heap.size x.val w') := fun x => Tv.same_one (nf_below hv x.bel) (nf_below hv' x.bel) (HA.out.2.2 _ (List.getElem_mem hjl))
      clear h1 h2 hv hv'
      have x0 := Inn.keep b0
      have x1 := Inn.keep b1
      have x2 := Inn.keep b2
      have x3 := Inn.keep b3
      have y0 := Inn.keep d0
      have y1 := Inn.keep d1
      have y2 := Inn.keep d2
      have y3 := Inn.keep d3
      haveI := inn_ne wr
      go_wp2_with fail
      refine wp_region_inn ?_ ?_ ?_
      · kernel_rfl
      · kernel_rfl
      repeat (go_big_quiet_step (first
        | (go_at_call 11; exact calls_inn (HS.out _))))
      refine wpQuiet_nil ?_
      rintro w4 ⟨x4, h4⟩
      have HB4 : Hid (Below w.heap.size w w4) := HB.out.trans (by rw [h4]; exact x4.bel.mono HB.out.size)
      clear h4 x4 x0 x1 x2 x3 y0 y1 y2 y3
      go_wp2_with fail
      go_roundw
      case rel => exact ⟨j + 1, by omega, by go_num, HB4.out⟩
      case measure => simp [intOf]; omega
    · go_wp2_with fail
      go_ret
      exact ⟨rfl, HB.out⟩
set_option maxRecDepth 100000 in
theorem sameNone_any (w : World) : Calls Tryz.prog 19 #[.slice none 0 0, .slice none 0 0] w fun e w' => e = .returned (.bool true) ∧ Below w.heap.size w w' := by
  go_enter Tryz.func19, Tryz.ntmps19
  go_wp2_with fail
  go_loopw [5] (fun i wr => i = .int .i64 0 ∧ Below w.heap.size w wr) (fun i _ => 0)
  case atStart => exact ⟨rfl, Below.refl _ _⟩
  case round =>
    obtain ⟨rfl, hbl⟩ := hrel
    go_wp2_with fail
    go_ret
    exact ⟨rfl, hbl⟩

/-! ### The draw -/
def fiveB : List Int := [1, 7, 0, 99999, 100000]
def threeB : List Int := [0, 3, -1]
theorem blk4 {W : World} {b x : Nat} (hx : x ≠ b) (v0 v1 v2 v3 : Value) : ((((W.setCell ⟨b, 0, none⟩ v0).setCell ⟨b, 1, none⟩ v1).setCell ⟨b, 2, none⟩ v2).setCell ⟨b, 3, none⟩ v3).heap[x]? = W.heap[x]? := by
  rw [Below.heap_setCell _ ⟨b, 3, none⟩ _ x hx, Below.heap_setCell _ ⟨b, 2, none⟩ _ x hx, Below.heap_setCell _ ⟨b, 1, none⟩ _ x hx, Below.heap_setCell _ ⟨b, 0, none⟩ _ x hx]
set_option maxHeartbeats 2000000 in
theorem drawNew_any (w : World) (ao : Option Addr) (len cap : Nat) (zs : List Int) (hr : IsRow w ao len cap zs) (hsm : len ≤ 1048576) :
    Calls Tryz.prog 5 #[.slice ao len cap] w fun e w' => ∃ (p q : Int) (t : Tm) (v : Value), e = .returned (.tuple #[.int .i64 p, .int .i64 q, v]) ∧ OwV w' w.heap.size t v ∧ BnT 46 t ∧ Below w.heap.size w w' := by
  obtain ⟨w0, hw0⟩ : ∃ w0, w0 = w.alloc (.cells #[.int .i64 0, .int .i64 0, .string ⟨#[]⟩, .slice none 0 0] 26) := ⟨_, rfl⟩
  have hb0 : Below w.heap.size w w0 := by rw [hw0]; exact (Below.refl _ _).alloc (Nat.le_refl _) _
  have HR : Hid (IsRow w0 ao len cap zs ∧ Below w.heap.size w w0 ∧ w0.heap.size = w.heap.size + 1 ∧ (∀ o, w0.cell? ⟨w.heap.size, o, none⟩ = (#[.int .i64 0, .int .i64 0, .string ⟨#[]⟩, .slice none 0 0] : Array Value)[o]?) ∧ ∀ o, w0.frozen? ⟨w.heap.size, o, none⟩ = false) := by
    refine ⟨hr.below hb0, hb0, ?_, ?_, ?_⟩
    · rw [hw0, World.size_alloc]
    · intro o; rw [hw0, World.cell?_alloc_new]
    · intro o; rw [hw0, World.frozen?_alloc_new]
  clear hr hb0
  go_enter Tryz.func5, Tryz.ntmps5
  go_wp2_with (go_at_call 12; fail)
  rw [← hw0]
  clear hw0
  refine (new_any w0 ao len cap zs HR.out.1 hsm).mono ?_
  rintro e w1 ⟨rfl, hcur, hb1, hsz⟩
  have HC1 : Hid (Cur w0.heap.size ao len cap zs w1 ∧ Below w0.heap.size w0 w1 ∧ w1.heap.size = w0.heap.size + 1) := ⟨hcur, hb1, hsz⟩
  clear hcur hb1 hsz
  have hz1 : w0.heap.size + 1 ≤ w1.heap.size := by have := HC1.out.2.2; omega
  go_wp2_with (go_at_call 13; fail)
  refine (int_any w0.heap.size ao len cap zs _ (HC1.out.1.alloc _) w1.heap.size fiveB (by omega) (by decide) (by decide) ?_).mono ?_
  · intro j hj
    rw [World.cell?_alloc_new]
    have hj' : j < 5 := hj
    have : j = 0 ∨ j = 1 ∨ j = 2 ∨ j = 3 ∨ j = 4 := by omega
    rcases this with rfl | rfl | rfl | rfl | rfl <;> rfl
  rintro e w2 ⟨p, rfl, _, hd2⟩
  have hd2' : Drawn w0.heap.size ao len cap zs w1 w2 := ((Drawn.refl HC1.out.1).alloc _).trans hd2
  have HD2 : Hid (Drawn w0.heap.size ao len cap zs w1 w2) := hd2'
  have hz2 : w0.heap.size + 1 ≤ w2.heap.size := Nat.le_trans hz1 hd2'.2.size
  clear hd2 hd2'
  go_wp2_with (go_at_call 13; fail)
  refine (int_any w0.heap.size ao len cap zs _ (HD2.out.1.alloc _) w2.heap.size threeB (by omega) (by decide) (by decide) ?_).mono ?_
  · intro j hj
    rw [World.cell?_alloc_new]
    have hj' : j < 3 := hj
    have : j = 0 ∨ j = 1 ∨ j = 2 := by omega
    rcases this with rfl | rfl | rfl <;> rfl
  rintro e w3 ⟨q, rfl, _, hd3⟩
  have HD3 : Hid (Drawn w0.heap.size ao len cap zs w1 w3) := HD2.out.trans (((Drawn.refl HD2.out.1).alloc _).trans hd3)
  clear hd3
  go_wp2_with (go_at_call 14; fail)
  refine (any_any w0.heap.size ao len cap zs w3 HD3.out.1).mono ?_
  rintro e w4 ⟨t, v, rfl, ⟨bx, hos, hbn, hbl⟩, hbnt, hd4⟩
  obtain ⟨k, n, s, tz, tl, tc, rfl⟩ := OsV.form hos
  have htt : Turn w0.heap.size w0 w4 := (Turn.of_below HC1.out.2.1).trans (HD3.out.2.trans hd4.2)
  obtain ⟨q3, f3⟩ := htt.kept (W := w.heap.size) (by have := HR.out.2.2.1; omega) (by have := HR.out.2.2.1; omega) HR.out.2.2.2.1 HR.out.2.2.2.2
  have HF : Hid (OwV ((((w4.setCell ⟨w.heap.size, 0, none⟩ (.int .i64 k)).setCell ⟨w.heap.size, 1, none⟩ (.int .i64 n)).setCell ⟨w.heap.size, 2, none⟩ (.string s)).setCell ⟨w.heap.size, 3, none⟩ (.slice tz tl tc)) w.heap.size t (.agg #[.int .i64 k, .int .i64 n, .string s, .slice tz tl tc]) ∧ BnT 46 t ∧ Below w.heap.size w ((((w4.setCell ⟨w.heap.size, 0, none⟩ (.int .i64 k)).setCell ⟨w.heap.size, 1, none⟩ (.int .i64 n)).setCell ⟨w.heap.size, 2, none⟩ (.string s)).setCell ⟨w.heap.size, 3, none⟩ (.slice tz tl tc))) := by
    have hz := HR.out.2.2.1
    have hz3 := HD3.out.2.size
    refine ⟨⟨bx, hos.keep fun b hb hl => blk4 (by have := hbl b hb; omega) _ _ _ _, hbn, fun b hb => by have := hbl b hb; omega⟩, hbnt, ?_⟩
    have hbw : Below w.heap.size w w4 := Turn.below HR.out.2.1 HR.out.2.1.size htt (by omega)
    exact (((hbw.setCell (p := ⟨w.heap.size, 0, none⟩) (Nat.le_refl _) _).setCell (p := ⟨w.heap.size, 1, none⟩) (Nat.le_refl _) _).setCell (p := ⟨w.heap.size, 2, none⟩) (Nat.le_refl _) _).setCell (p := ⟨w.heap.size, 3, none⟩) (Nat.le_refl _) _
  clear htt hd4 hos hbn hbl hbnt
  have b0 := q3 0
  have b1 := q3 1
  have b2 := q3 2
  have b3 := q3 3
  have qr : Hid (∀ o, w4.cell? ⟨w.heap.size, o, none⟩ = (#[.int .i64 0, .int .i64 0, .string ⟨#[]⟩, .slice none 0 0] : Array Value)[o]?) := q3
  clear q3
  go_wp2_with fail
  have qr := qr.out
  exact bodyPost_ret (v := .tuple #[.int .i64 p, .int .i64 q, .agg #[.int .i64 k, .int .i64 n, .string s, .slice tz tl tc]]) (by simp [results, Tryz.results5, go_sem, qr]) rfl ⟨p, q, t, _, rfl, HF.out.1, HF.out.2.1, HF.out.2.2⟩
end Go.Proofs.YtfjaphhijefdlaaGreatDoor.Na
namespace Go.Proofs.YtfjaphhijefdlaaGreatDoor.Na
open Go.RowKit Atom
set_option linter.unusedVariables false

theorem osL_nf {w : World} {l : List Tm} {bs : List Nat} {ao : Option Addr} (h : OsL w l bs ao) : RpL (Nf w) w l ao := by
  by_cases hn : l = []
  · subst hn; rw [RpL]; trivial
  · obtain ⟨g, o, bb, _, rfl, hf, hq⟩ := (OsL.iff hn).1 h
    have go : ∀ (m : List Tm) bs o, OsR w m bs g o → RpL (Nf w) w m (some ⟨g, o, none⟩) := by
      intro m
      induction m with
      | nil => intro _ _ _; rw [RpL]; trivial
      | cons t r ihr =>
        intro bs o hq
        rw [OsR] at hq
        obtain ⟨b1, b2, _, q1, q2⟩ := hq
        rw [RpL]
        exact ⟨g, o, rfl, hf, Tv.osT_rp t _ _ _ q1, ihr _ _ q2⟩
    exact go l bb o hq
theorem rpL_nf {w : World} {lo : Nat} {l : List Tm} {ao : Option Addr} (h : RpL (fun b => lo ≤ b ∧ Nf w b) w l ao) : RpL (Nf w) w l ao :=
  (Moves.sub (S' := Nf w) (fun b hb => hb.2)).repL l ao h

set_option maxRecDepth 100000 in
set_option maxHeartbeats 4000000 in
theorem sameActor_any (p q : Int) (l : List Tm) (ra rb : Option Addr) (rc sc : Nat) (w : World) (ha : RpL (Nf w) w l ra) (hb : RpL (Nf w) w l rb) (hl : l.length ≤ 1048576) (hc : ∀ t ∈ l, cntT t ≤ 1000000000) :
    Calls Tryz.prog 7 #[.agg #[.int .i64 p, .int .i64 q, .slice ra l.length rc, .slice none 0 0, .slice none 0 0], .agg #[.int .i64 p, .int .i64 q, .slice rb l.length sc, .slice none 0 0, .slice none 0 0]] w fun e w' => e = .returned (.bool true) ∧ Below w.heap.size w w' := by
  obtain ⟨w1, hw1⟩ : ∃ w1, w1 = w.alloc (.cells #[.int .i64 p, .int .i64 q, .slice ra l.length rc, .slice none 0 0, .slice none 0 0] 31) := ⟨_, rfl⟩
  obtain ⟨w2, hw2⟩ : ∃ w2, w2 = w1.alloc (.cells #[.int .i64 p, .int .i64 q, .slice rb l.length sc, .slice none 0 0, .slice none 0 0] 31) := ⟨_, rfl⟩
  have hb1 : Below w.heap.size w w1 := by rw [hw1]; exact (Below.refl _ _).alloc (Nat.le_refl _) _
  have hb2 : Below w1.heap.size w1 w2 := by rw [hw2]; exact (Below.refl _ _).alloc (Nat.le_refl _) _
  have hbw : Below w.heap.size w w2 := hb1.trans (hb2.mono hb1.size)
  have hz1 : w1.heap.size = w.heap.size + 1 := by rw [hw1, World.size_alloc]
  have qa : ∀ o v, (#[.int .i64 p, .int .i64 q, .slice ra l.length rc, .slice none 0 0, .slice none 0 0] : Array Value)[o]? = some v → w2.cell? ⟨w.heap.size, o, none⟩ = some v := fun o v hv => by
    rw [hb2.cell (p := ⟨w.heap.size, o, none⟩) (by show w.heap.size < _; omega), hw1, World.cell?_alloc_new]; exact hv
  have qb : ∀ o v, (#[.int .i64 p, .int .i64 q, .slice rb l.length sc, .slice none 0 0, .slice none 0 0] : Array Value)[o]? = some v → w2.cell? ⟨w.heap.size + 1, o, none⟩ = some v := fun o v hv => by
    rw [← hz1, hw2, World.cell?_alloc_new]; exact hv
  have HA : Hid (RpL (Nf w2) w2 l ra ∧ RpL (Nf w2) w2 l rb ∧ Below w.heap.size w w2) := ⟨rpL_bel ha hbw, rpL_bel hb hbw, hbw⟩
  have HT : Hid (∀ wc, Below w2.heap.size w2 wc → Calls Tryz.prog 20 #[.slice ra l.length rc, .slice rb l.length sc] wc fun e w' => e = .returned (.bool true) ∧ Below wc.heap.size wc w') := fun wc h => sameTerms_any l ra rb rc sc wc (rpL_bel HA.out.1 h) (rpL_bel HA.out.2.1 h) hl hc
  have HN : Hid (∀ wc, Calls Tryz.prog 20 #[.slice none 0 0, .slice none 0 0] wc fun e w' => e = .returned (.bool true) ∧ Below wc.heap.size wc w') := fun wc => sameTerms_any [] none none 0 0 wc (by rw [RpL]; trivial) (by rw [RpL]; trivial) (by simp) (fun t ht => by cases ht)
  clear ha hb hl hc hb1 hb2 hbw
  have HQ : Hid (∀ wc, Below w2.heap.size w2 wc → (∀ o v, (#[.int .i64 p, .int .i64 q, .slice ra l.length rc, .slice none 0 0, .slice none 0 0] : Array Value)[o]? = some v → wc.cell? ⟨w.heap.size, o, none⟩ = some v) ∧ ∀ o v, (#[.int .i64 p, .int .i64 q, .slice rb l.length sc, .slice none 0 0, .slice none 0 0] : Array Value)[o]? = some v → wc.cell? ⟨w.heap.size + 1, o, none⟩ = some v) := fun wc hb => by
    refine ⟨fun o v hv => ?_, fun o v hv => ?_⟩
    · have h := qa o v hv
      rw [hb.cell (p := ⟨w.heap.size, o, none⟩) (World.block_lt_of_cell? w2 _ h)]; exact h
    · have h := qb o v hv
      rw [hb.cell (p := ⟨w.heap.size + 1, o, none⟩) (World.block_lt_of_cell? w2 _ h)]; exact h
  clear qa qb
  rw [hw1] at hw2
  clear hw1 hz1
  have r0 : (p == p) = true := by simp
  have r1 : (q == q) = true := by simp
  go_enter Tryz.func7, Tryz.ntmps7
  go_wp2_with (go_at_call 19; fail)
  rw [← hw2]
  clear hw2
  refine (sameNone_any w2).mono ?_
  rintro e w3 ⟨rfl, hb3⟩
  have HB3 : Hid (Below w2.heap.size w2 w3) := hb3
  obtain ⟨qa, qb⟩ := HQ.out w3 hb3
  have a2 := qa 2 _ rfl
  have a3 := qa 3 _ rfl
  have d2 := qb 2 _ rfl
  have d3 := qb 3 _ rfl
  clear hb3 qa qb
  go_wp2_with (go_at_call 20; fail)
  refine (HT.out w3 HB3.out).mono ?_
  rintro e w4 ⟨rfl, hb4⟩
  have HB4 : Hid (Below w2.heap.size w2 w4) := HB3.out.trans (hb4.mono HB3.out.size)
  obtain ⟨qa, qb⟩ := HQ.out w4 HB4.out
  clear a2 a3 d2 d3 hb4
  have a3 := qa 3 _ rfl
  have d3 := qb 3 _ rfl
  clear qa qb
  go_wp2_with (go_at_call 20; fail)
  refine (HN.out w4).mono ?_
  rintro e w5 ⟨rfl, hb5⟩
  have HB5 : Hid (Below w.heap.size w w5) := HA.out.2.2.trans ((HB4.out.trans (hb5.mono HB4.out.size)).mono HA.out.2.2.size)
  clear hb5
  go_wp2_with fail
  go_ret
  exact ⟨rfl, HB5.out⟩
end Go.Proofs.YtfjaphhijefdlaaGreatDoor.Na
namespace Go.Proofs.YtfjaphhijefdlaaGreatDoor.Na
open Go.RowKit Atom
open Go.Proofs.YtfjaphhijefdlaaGreatDoor.Code
set_option linter.unusedVariables false

theorem bigN_any (ao : Option Addr) (len cap : Nat) (w : World) (hm : len ≤ maxLen) :
    Calls Tryz.prog 4 #[.slice ao len cap] w fun e w' => e = .returned (.bool (decide (1048576 < len))) ∧ w' = w := by
  unfold maxLen at hm
  by_cases h : 1048576 < len
  · go_enter Tryz.func4, Tryz.ntmps4
    go_wp2_with fail
    go_ret
    exact ⟨by simp [h]; omega, rfl⟩
  · go_enter Tryz.func4, Tryz.ntmps4
    go_wp2_with fail
    go_ret
    exact ⟨by simp [h]; omega, rfl⟩
theorem cnt_ntL : ∀ l : List Tm, cntL l = ntL l
  | [] => by rw [cntL, ntL]
  | .mk k n s m :: r => by rw [cntL, cntT, ntL, cnt_ntL m, cnt_ntL r]
theorem bnt_cnt {M : Nat} {t : Tm} (h : BnT M t) (hm : M ≤ 1000000) : cntT t ≤ 1000000000 := by
  have h1 := h.2
  rw [← cnt_ntL, cntL, cntL] at h1
  omega
theorem smI_wee {l : List I} (h : ∀ x ∈ l, Wee x) : SmI maxLen l := fun x hx => by
  have h1 := (h x hx).s
  unfold maxLen; omega
theorem nw_small {pid pc : Int} {t : Tm} (h : BnT 46 t) : (nwR pid pc t).length ≤ 8 ∧ ∀ x ∈ nwR pid pc t, cntT x ≤ 1000000000 := by
  unfold nwR
  split
  · refine ⟨by unfold seven; simp, fun x hx => ?_⟩
    rcases List.mem_cons.1 hx with rfl | hx
    · exact bnt_cnt h (by omega)
    · unfold seven at hx
      obtain rfl := (List.mem_replicate.1 hx).2
      unfold e0T
      rw [cntT, cntL]; omega
  · exact ⟨by simp, fun x hx => by cases hx⟩

set_option maxRecDepth 100000 in
set_option maxHeartbeats 4000000 in
theorem newActors_law (w : World) (ao : Option Addr) (len cap : Nat) (zs : List Int) (hr : IsRow w ao len cap zs) (hlc : len ≤ cap) (hcm : cap ≤ maxLen) (hS : Shp w) (hP : Pow w) (hE : Es.Ety w) :
    Calls Tryz.prog 3 #[.slice ao len cap] w fun e w' => e = .returned (.bool true) ∧ Below w.heap.size w w' := by
  have HR : Hid (IsRow w ao len cap zs ∧ Shp w ∧ Pow w ∧ Es.Ety w) := ⟨hr, hS, hP, hE⟩
  have HBG : Hid (∀ w', Calls Tryz.prog 4 #[.slice ao len cap] w' fun e w'' => e = .returned (.bool (decide (1048576 < len))) ∧ w'' = w') := fun w' => bigN_any ao len cap w' (Nat.le_trans hlc hcm)
  clear hr hlc hcm hS hP hE
  by_cases hbig : 1048576 < len
  · have hd : decide (1048576 < len) = true := by simpa using hbig
    rw [hd] at HBG
    go_enter Tryz.func3, Tryz.ntmps3
    go_wp2_with (go_at_call 4; refine (HBG.out _).mono ?_; rintro e w' ⟨rfl, rfl⟩)
    go_ret
    exact ⟨rfl, Below.refl _ _⟩
  · have hd : decide (1048576 < len) = false := by simpa using hbig
    rw [hd] at HBG
    have HSM : Hid (len ≤ 1048576) := by show _ ≤ _; omega
    clear hd hbig
    go_enter Tryz.func3, Tryz.ntmps3
    go_wp2_with (go_at_call 4; refine (HBG.out _).mono ?_; rintro e w' ⟨rfl, hw'⟩; obtain rfl := hw'.symm)
    refine (drawNew_any w ao len cap zs HR.out.1 HSM.out).mono ?_
    rintro e w1 ⟨pid, pc, t, v, rfl, ⟨bx, hos, hbn, _⟩, hbnt, hb1⟩
    obtain ⟨tk, tn, ts, tao, tlen, tcap, rfl⟩ := OsV.form hos
    obtain ⟨w2, hw2⟩ : ∃ w2, w2 = w1.alloc (.cells #[.int .i64 tk, .int .i64 tn, .string ts, .slice tao tlen tcap] 26) := ⟨_, rfl⟩
    have hb2 : Below w1.heap.size w1 w2 := by rw [hw2]; exact (Below.refl _ _).alloc (Nat.le_refl _) _
    have cx : ∀ o v, (#[.int .i64 tk, .int .i64 tn, .string ts, .slice tao tlen tcap] : Array Value)[o]? = some v → w2.cell? ⟨w1.heap.size, o, none⟩ = some v := fun o v hv => by rw [hw2, World.cell?_alloc_new]; exact hv
    have hos2 : OsV w2 bx t (.agg #[.int .i64 tk, .int .i64 tn, .string ts, .slice tao tlen tcap]) := OsV.below hb2 hos
    have HX : Hid (∀ wc, Below w2.heap.size w2 wc → (wc.cell? ⟨w1.heap.size, 0, none⟩ = some (.int .i64 tk) ∧ wc.cell? ⟨w1.heap.size, 1, none⟩ = some (.int .i64 tn) ∧ wc.cell? ⟨w1.heap.size, 2, none⟩ = some (.string ts) ∧ wc.cell? ⟨w1.heap.size, 3, none⟩ = some (.slice tao tlen tcap)) ∧ RpV (Nf wc) wc t (.agg #[.int .i64 tk, .int .i64 tn, .string ts, .slice tao tlen tcap])) := fun wc hb =>
      ⟨⟨keepOt hb (cx 0 _ rfl), keepOt hb (cx 1 _ rfl), keepOt hb (cx 2 _ rfl), keepOt hb (cx 3 _ rfl)⟩, nf_below (Tv.osV_rp hos2) hb⟩
    have HW2 : Hid (Below w.heap.size w w2 ∧ BnT 46 t) := ⟨hb1.trans (hb2.mono hb1.size), hbnt⟩
    have HCA := hidB (implNew_any pid pc t bx _ w2 hos2 hbn (Nat.le_trans hbnt.2 (by decide)))
    have HSP : Hid (∀ wc, Below w2.heap.size w2 wc → Calls Tryz.prog 8 #[.int .i64 pid, .int .i64 pc, .agg #[.int .i64 tk, .int .i64 tn, .string ts, .slice tao tlen tcap]] wc fun e w' => ∃ ra rc, e = .returned (.agg #[.int .i64 (nwI pid pc t pid), .int .i64 (nwI pid pc t pc), .slice ra (nwR pid pc t).length rc, .slice none 0 0, .slice none 0 0]) ∧ RpL (Nf w') w' (nwR pid pc t) ra ∧ Below wc.heap.size wc w') := fun wc hb =>
      (specNew_nf pid pc t _ wc (OsV.rep (OsV.below hb hos2)) hbnt.1).mono fun e w' ⟨ra, rc, h1, _, _, h2, h3⟩ => ⟨ra, rc, h1, rpL_nf h2, h3⟩
    have HLC : Hid ((nwR pid pc t).length ≤ 8 ∧ ∀ x ∈ nwR pid pc t, cntT x ≤ 1000000000) := nw_small hbnt
    clear hos hbn hbnt hb1 hb2 cx hos2
    go_wp2_with (go_at_call 6; fail)
    rw [← hw2]
    clear hw2
    refine HCA.out.mono ?_
    rintro e w3 ⟨ra, rc, bs', rfl, _, hrc, hol, _, _, hb3⟩
    have HRC : Hid (rc ≤ maxLen) := hrc
    obtain ⟨w4, hw4⟩ : ∃ w4, w4 = w3.alloc (.cells #[.int .i64 (nwI pid pc t pid), .int .i64 (nwI pid pc t pc), .slice ra (nwR pid pc t).length rc, .slice none 0 0, .slice none 0 0] 31) := ⟨_, rfl⟩
    have hb4 : Below w3.heap.size w3 w4 := by rw [hw4]; exact (Below.refl _ _).alloc (Nat.le_refl _) _
    have ca : ∀ o v, (#[.int .i64 (nwI pid pc t pid), .int .i64 (nwI pid pc t pc), .slice ra (nwR pid pc t).length rc, .slice none 0 0, .slice none 0 0] : Array Value)[o]? = some v → w4.cell? ⟨w3.heap.size, o, none⟩ = some v := fun o v hv => by rw [hw4, World.cell?_alloc_new]; exact hv
    have H4 : Hid (Below w2.heap.size w2 w4 ∧ RpL (Nf w4) w4 (nwR pid pc t) ra) := ⟨hb3.trans (hb4.mono hb3.size), rpL_bel (osL_nf hol) hb4⟩
    have HY : Hid (∀ wc, Below w4.heap.size w4 wc → (wc.cell? ⟨w3.heap.size, 0, none⟩ = some (.int .i64 (nwI pid pc t pid)) ∧ wc.cell? ⟨w3.heap.size, 1, none⟩ = some (.int .i64 (nwI pid pc t pc)) ∧ wc.cell? ⟨w3.heap.size, 2, none⟩ = some (.slice ra (nwR pid pc t).length rc) ∧ wc.cell? ⟨w3.heap.size, 3, none⟩ = some (.slice none 0 0) ∧ wc.cell? ⟨w3.heap.size, 4, none⟩ = some (.slice none 0 0)) ∧ RpL (Nf wc) wc (nwR pid pc t) ra) := fun wc hb =>
      ⟨⟨keepOt hb (ca 0 _ rfl), keepOt hb (ca 1 _ rfl), keepOt hb (ca 2 _ rfl), keepOt hb (ca 3 _ rfl), keepOt hb (ca 4 _ rfl)⟩, rpL_bel H4.out.2 hb⟩
    clear hol hb3 hb4 ca HCA
    obtain ⟨⟨x0, x1, x2, x3⟩, _⟩ := HX.out w4 H4.out.1
    obtain ⟨⟨y0, y1, y2, y3, y4⟩, _⟩ := HY.out w4 (Below.refl _ _)
    obtain ⟨P, hP⟩ : ∃ P, P = nwI pid pc t pid := ⟨_, rfl⟩
    obtain ⟨Q, hQ⟩ : ∃ Q, Q = nwI pid pc t pc := ⟨_, rfl⟩
    obtain ⟨L, hL⟩ : ∃ L, L = nwR pid pc t := ⟨_, rfl⟩
    have HPQ : Hid (P = nwI pid pc t pid ∧ Q = nwI pid pc t pc ∧ L = nwR pid pc t) := ⟨hP, hQ, hL⟩
    simp only [← hP, ← hQ, ← hL] at HY HSP HLC H4 hw4 y0 y1 y2 ⊢
    clear hP hQ hL
    have HF : Hid (∀ wc, Below w4.drew.heap.size w4.drew wc → wc.cell? ⟨w1.heap.size, 0, none⟩ = some (.int .i64 tk) ∧ wc.cell? ⟨w1.heap.size, 1, none⟩ = some (.int .i64 tn) ∧ wc.cell? ⟨w1.heap.size, 2, none⟩ = some (.string ts) ∧ wc.cell? ⟨w1.heap.size, 3, none⟩ = some (.slice tao tlen tcap) ∧ wc.cell? ⟨w3.heap.size, 0, none⟩ = some (.int .i64 P) ∧ wc.cell? ⟨w3.heap.size, 1, none⟩ = some (.int .i64 Q) ∧ wc.cell? ⟨w3.heap.size, 2, none⟩ = some (.slice ra L.length rc) ∧ wc.cell? ⟨w3.heap.size, 3, none⟩ = some (.slice none 0 0) ∧ wc.cell? ⟨w3.heap.size, 4, none⟩ = some (.slice none 0 0)) := fun wT hb => by
      have h : Below w4.heap.size w4 wT := (Below.refl _ w4).drew.trans hb
      obtain ⟨⟨a0, a1, a2, a3⟩, _⟩ := HX.out wT (H4.out.1.trans (h.mono H4.out.1.size))
      obtain ⟨⟨c0, c1, c2, c3, c4⟩, _⟩ := HY.out wT h
      exact ⟨a0, a1, a2, a3, c0, c1, c2, c3, c4⟩
    have HD : Hid (Below w2.heap.size w2 w4.drew) := H4.out.1.drew
    have HRP : Hid (∀ wT, Below w4.drew.heap.size w4.drew wT → RpL (Nf wT) wT L ra) := fun wT hb => (HY.out wT ((Below.refl _ w4).drew.trans hb)).2
    go_wp2_with fail
    rw [← hw4]
    clear hw4 x0 x1 x2 x3 y0 y1 y2 y3 y4
    have S0 := HF.out w4.drew (Below.refl _ _)
    go_region_held3 (fun wc => wc.cell? ⟨w1.heap.size, 0, none⟩ = some (.int .i64 tk) ∧ wc.cell? ⟨w1.heap.size, 1, none⟩ = some (.int .i64 tn) ∧ wc.cell? ⟨w1.heap.size, 2, none⟩ = some (.string ts) ∧ wc.cell? ⟨w1.heap.size, 3, none⟩ = some (.slice tao tlen tcap) ∧ wc.cell? ⟨w3.heap.size, 0, none⟩ = some (.int .i64 P) ∧ wc.cell? ⟨w3.heap.size, 1, none⟩ = some (.int .i64 Q) ∧ wc.cell? ⟨w3.heap.size, 2, none⟩ = some (.slice ra L.length rc) ∧ wc.cell? ⟨w3.heap.size, 3, none⟩ = some (.slice none 0 0) ∧ wc.cell? ⟨w3.heap.size, 4, none⟩ = some (.slice none 0 0)) (first | (refine HF.out _ ?_; first | exact HK2.out | exact HK2.out.drew | exact HK.out | exact HK.out.drew | exact Below.refl _ _ | exact (Below.refl _ _).drew; done) | go_keep) (first
      | (go_at_call 8; refine (HSP.out _ ?_).mono ?_; (focus (first | exact HD.out | exact HD.out.drew; done)); rintro e wT ⟨rb, sc, rfl, hrT, hbT⟩; have HK : Hid (Below w4.drew.heap.size w4.drew wT) := (by first | exact hbT | exact (Below.refl _ _).drew.trans hbT); have HRT : Hid (RpL (Nf wT) wT L rb) := hrT; have HRA : Hid (RpL (Nf wT) wT L ra) := HRP.out wT HK.out; clear hrT hbT)
      | (go_at_call 7; refine (sameActor_any P Q L ra rb rc sc _ ?_ ?_ ?_ ?_).mono ?_; (focus (first | exact HRA.out | exact rpL_bel HRA.out (Below.refl _ _).drew; done)); (focus (first | exact HRT.out | exact rpL_bel HRT.out (Below.refl _ _).drew; done)); (focus (have := HLC.out.1; omega)); (focus (exact HLC.out.2)); rintro e wU ⟨rfl, hbU⟩; have HK2 : Hid (Below w4.drew.heap.size w4.drew wU) := (by first | exact HK.out.trans (hbU.mono HK.out.size) | exact HK.out.trans (((Below.refl _ _).drew.trans hbU).mono HK.out.size))))
    all_goals
      have HWU : Hid (Below w.heap.size w wU) := HW2.out.1.trans ((HD.out.trans (HK2.out.mono HD.out.size)).mono HW2.out.1.size)
      have HFU : Hid (∀ wc, Below wU.heap.size wU wc → wc.cell? ⟨w1.heap.size, 0, none⟩ = some (.int .i64 tk) ∧ wc.cell? ⟨w1.heap.size, 1, none⟩ = some (.int .i64 tn) ∧ wc.cell? ⟨w1.heap.size, 2, none⟩ = some (.string ts) ∧ wc.cell? ⟨w1.heap.size, 3, none⟩ = some (.slice tao tlen tcap) ∧ wc.cell? ⟨w3.heap.size, 0, none⟩ = some (.int .i64 P) ∧ wc.cell? ⟨w3.heap.size, 1, none⟩ = some (.int .i64 Q) ∧ wc.cell? ⟨w3.heap.size, 2, none⟩ = some (.slice ra L.length rc) ∧ wc.cell? ⟨w3.heap.size, 3, none⟩ = some (.slice none 0 0) ∧ wc.cell? ⟨w3.heap.size, 4, none⟩ = some (.slice none 0 0)) := fun wc hb => HF.out wc (HK2.out.trans (hb.mono HK2.out.size))
      have HRU : Hid (RpL (Nf wU) wU L ra) := HRP.out wU HK2.out
      have HTU : Hid (RpV (Nf wU) wU t (.agg #[.int .i64 tk, .int .i64 tn, .string ts, .slice tao tlen tcap])) := (HX.out wU (HD.out.trans (HK2.out.mono HD.out.size))).2
      clear HRT HRA HK hbU S0 HRP HF HSP HX HY H4 HD
      obtain ⟨x0, x1, x2, x3, y0, y1, y2, y3, y4⟩ := HFU.out wU (Below.refl _ _)
      cases hn : nwB pid pc t with
      | false =>
        obtain ⟨n1, n2⟩ := nw_no hn
        obtain ⟨rfl, rfl, rfl⟩ : P = 0 ∧ Q = 0 ∧ L = [] := ⟨by rw [HPQ.out.1, n2], by rw [HPQ.out.2.1, n2], by rw [HPQ.out.2.2, n1]⟩
        clear n1 n2
        have HFV : Hid (∀ wc, Below wU.drew.heap.size wU.drew wc → wc.cell? ⟨w1.heap.size, 0, none⟩ = some (.int .i64 tk) ∧ wc.cell? ⟨w1.heap.size, 1, none⟩ = some (.int .i64 tn) ∧ wc.cell? ⟨w1.heap.size, 2, none⟩ = some (.string ts) ∧ wc.cell? ⟨w1.heap.size, 3, none⟩ = some (.slice tao tlen tcap) ∧ wc.cell? ⟨w3.heap.size, 0, none⟩ = some (.int .i64 0) ∧ wc.cell? ⟨w3.heap.size, 1, none⟩ = some (.int .i64 0) ∧ wc.cell? ⟨w3.heap.size, 2, none⟩ = some (.slice ra 0 rc) ∧ wc.cell? ⟨w3.heap.size, 3, none⟩ = some (.slice none 0 0) ∧ wc.cell? ⟨w3.heap.size, 4, none⟩ = some (.slice none 0 0)) := fun wc hb => HFU.out wc ((Below.refl _ wU).drew.trans hb)
        have HAO : Hid (∀ wc va vc (lc : List I), Below w.heap.size w wc → RowI wc va lc → (∀ x ∈ lc, Wee x) → lc.length ≤ 20 → Calls Tryz.prog 9 #[.slice va lc.length vc, .agg #[.int .i64 0, .int .i64 0, .slice ra 0 rc, .slice none 0 0, .slice none 0 0]] wc fun e w' => e = .returned (.bool false) ∧ Below wc.heap.size wc w') := fun wc va vc lc hb hro hwe hle => by
          have h := implActorOk_any lc va vc ⟨0, 0, [], [], 0, fun _ => 0⟩ ⟨ra, rc, none, 0, none, 0⟩ wc hro (smI_wee hwe) (by omega) ⟨by show RepL 0 wc [] _; rw [RepL]; trivial, by show RepL 0 wc [] _; rw [RepL]; trivial, fun h => absurd rfl h, Nat.zero_le _, HRC.out, Nat.le_refl _, Nat.zero_le _, Nat.le_refl _, Nat.zero_le _⟩ (by decide) (HR.out.2.1.below hb) (HR.out.2.2.1.below hb) (HR.out.2.2.2.below hb)
          rw [acB_no2 (show ¬ ((1 : Int) ≤ 0 ∧ (0 : Int) ≤ 99999) by omega)] at h
          exact h
        have HRW : Hid (IsRow wU.drew ao len cap zs ∧ Below w.heap.size w wU.drew) := ⟨HR.out.1.below HWU.out.drew, HWU.out.drew⟩
        have e0 : ((0 : Int) == 0) = true := by decide
        go_wp2_with fail
        clear x0 x1 x2 x3 y0 y1 y2 y3 y4
        have S0 := HFV.out wU.drew (Below.refl _ _)
        go_region_held3 (fun wc => wc.cell? ⟨w1.heap.size, 0, none⟩ = some (.int .i64 tk) ∧ wc.cell? ⟨w1.heap.size, 1, none⟩ = some (.int .i64 tn) ∧ wc.cell? ⟨w1.heap.size, 2, none⟩ = some (.string ts) ∧ wc.cell? ⟨w1.heap.size, 3, none⟩ = some (.slice tao tlen tcap) ∧ wc.cell? ⟨w3.heap.size, 0, none⟩ = some (.int .i64 0) ∧ wc.cell? ⟨w3.heap.size, 1, none⟩ = some (.int .i64 0) ∧ wc.cell? ⟨w3.heap.size, 2, none⟩ = some (.slice ra 0 rc) ∧ wc.cell? ⟨w3.heap.size, 3, none⟩ = some (.slice none 0 0) ∧ wc.cell? ⟨w3.heap.size, 4, none⟩ = some (.slice none 0 0)) (first | (refine HFV.out _ ?_; first | exact HK5.out | exact HK5.out.drew | exact HK4.out | exact HK4.out.drew | exact Below.refl _ _ | exact (Below.refl _ _).drew; done) | go_keep) (first
          | (go_at_call 10; refine (drawCode_any ao len cap zs _ ?_ HSM.out).mono ?_; (focus (first | exact HRW.out.1 | exact HRW.out.1.below (Below.refl _ _).drew; done)); rintro e wT ⟨⟨va, vc, lc, rfl, hrow, _, hl2, hwee, _⟩, hbT⟩; have HK4 : Hid (Below wU.drew.heap.size wU.drew wT) := (by first | exact hbT | exact (Below.refl _ _).drew.trans hbT); have HRO : Hid (RowI wT va lc ∧ (∀ x ∈ lc, Wee x) ∧ lc.length ≤ 20) := ⟨hrow.row, hwee, hl2⟩; have HWT : Hid (Below w.heap.size w wT) := HRW.out.2.trans (HK4.out.mono HRW.out.2.size); clear hrow hwee hl2 hbT)
          | (go_at_call 9; refine (HAO.out _ _ _ _ ?_ ?_ HRO.out.2.1 HRO.out.2.2).mono ?_; (focus (first | exact HWT.out | exact HWT.out.drew; done)); (focus (first | exact HRO.out.1 | exact HRO.out.1.below (Below.refl _ _).drew; done)); rintro e wV ⟨rfl, hbV⟩; have HK5 : Hid (Below wU.drew.heap.size wU.drew wV) := (by first | exact HK4.out.trans (hbV.mono HK4.out.size) | exact HK4.out.trans (((Below.refl _ _).drew.trans hbV).mono HK4.out.size))))
        all_goals
          have HWV : Hid (Below w.heap.size w wV) := HRW.out.2.trans (HK5.out.mono HRW.out.2.size)
          go_wp2_with fail
          go_ret
          exact ⟨rfl, HWV.out⟩
      | true =>
        obtain ⟨n1, n2⟩ := nw_yes hn
        obtain ⟨rfl, rfl, hL⟩ : P = pid ∧ Q = pc ∧ L = t :: seven := ⟨by rw [HPQ.out.1, n2], by rw [HPQ.out.2.1, n2], by rw [HPQ.out.2.2, n1]⟩
        clear n1 n2
        have hl8 : L.length = 8 := by rw [hL]; rfl
        have e8 : ((L.length : Int) == 0) = false := by rw [hl8]; decide
        have e9 : ((L.length : Int) == 8) = true := by rw [hl8]; decide
        have e7 : 7 < L.length := by omega
        have e6 : L.length ≤ 8 := by omega
        have hru := HRU.out
        rw [hL] at hru
        obtain ⟨g, o, era, _, h0⟩ := rpL_at _ _ hru 0 (by simp)
        obtain ⟨g', o', era', _, h7⟩ := rpL_at _ _ hru 7 (by unfold seven; simp)
        rw [era] at era'
        cases era'
        have h7' : RpT (Nf wU) wU e0T g (o + 28) := h7
        unfold e0T at h7'
        rw [RpT] at h7'
        have c7 := h7'.1
        have h0' : RpT (Nf wU) wU t g o := h0
        obtain ⟨k0, n0, s0, z0, zl, zc, c0, c1, c2, c3, hv0⟩ := rpT_cells h0'
        clear h0 h7 h7' h0' hru
        have HST : Hid (∀ x : Inn wU, Calls Tryz.prog 11 #[.agg #[.int .i64 k0, .int .i64 n0, .string s0, .slice z0 zl zc], .agg #[.int .i64 tk, .int .i64 tn, .string ts, .slice tao tlen tcap]] x.val fun e w' => e = .returned (.bool true) ∧ Below x.val.heap.size x.val w') := fun x => Tv.same_one (nf_below hv0 x.bel) (nf_below HTU.out x.bel) (bnt_cnt HW2.out.2 (by omega))
        have X0 := Inn.keep x0
        have X1 := Inn.keep x1
        have X2 := Inn.keep x2
        have X3 := Inn.keep x3
        have Y0 := Inn.keep y0
        have Y1 := Inn.keep y1
        have Y2 := Inn.keep y2
        have Y3 := Inn.keep y3
        have Y4 := Inn.keep y4
        have Z0 := Inn.keep c0
        have Z1 := Inn.keep c1
        have Z2 := Inn.keep c2
        have Z3 := Inn.keep c3
        have Z7 := Inn.keep c7
        subst era
        haveI := inn_ne wU
        have r1 : (P == P) = true := by simp
        have r2 : (Q == Q) = true := by simp
        clear hl8 hL HRU hn hv0
        go_wp2_with fail
        refine wp_region_inn ?_ ?_ ?_
        · kernel_rfl
        · kernel_rfl
        repeat (go_big_quiet_step (first
          | (go_at_call 11; exact calls_inn (HST.out _))))
        refine wpQuiet_nil ?_
        rintro wV ⟨x5, h5⟩
        have HB5 : Hid (Below w.heap.size w wV) := HWU.out.trans (by rw [h5]; exact x5.bel.mono HWU.out.size)
        clear h5 x5
        go_wp2_with fail
        go_ret
        exact ⟨rfl, HB5.out⟩
end Go.Proofs.YtfjaphhijefdlaaGreatDoor.Na
