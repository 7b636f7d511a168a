/-
  The specification's PlainOk: it answers plB.
  (Ahead of it, in this text: A new system: what the crowd gives back. The program's new system. The specification says something, of nothing said. The specification's PlainOk, its parts: l11Has, l11At, l11Said, l11Both.)
-/
import Derived.Test.YtjibnlpjpbileaaGreatDoorU7
import Derived.Test.YtjibnlpjpbileaaGreatDoorU2
import Derived.Test.YtjibnlpjpbileaaGreatDoorInn
import Derived.Deep.RegionLaw
import Derived.Test.YtjibnlpjpbileaaGreatDoorU3
namespace Go.Proofs.YtjibnlpjpbileaaGreatDoor
open Go.RowKit Atom
open Go.Proofs.YtjibnlpjpbileaaGreatDoor.Code
set_option linter.unusedVariables false

def nPl (code : List I) (t : Tm) : Pl := ⟨code, [newA t], 2, [⟨1, 1, t⟩]⟩
def zPl : Pl := ⟨[], [], 0, []⟩
noncomputable def aPl (code : List I) (t : Tm) : Pl := if plB (nPl code t) = true then nPl code t else zPl
theorem smI_mono {a b : Nat} {l : List I} (h : SmI a l) (hab : a ≤ b) : SmI b l := fun x hx => by have := h x hx; omega
/-- One actor's row. -/
theorem plain_one {cv ov : Value} {next : Int} {a : Ac} {h : Wh} {w w' : World} {e : Ending} (hp : PlainP cv next ov [(1, acV a h)] w e w') : ∃ g cap, e = .returned (.agg #[cv, .slice (some ⟨g, 0, none⟩) 1 cap, .int .i64 next, ov]) ∧ w'.ownsRow w.heap.size 61 5 (.slice (some ⟨g, 0, none⟩) 1 cap) 1 [.int .i64 a.pid, .int .i64 a.pc, .slice h.ra a.regs.length h.rc, .slice h.ba a.box.length h.bc, .slice h.la a.N h.lc] ∧ Below w.heap.size w w' := by
  obtain ⟨ks, rs, v, h1, h2, h3, h4, rfl, h5, h6⟩ := hp
  have hk : ks = [1] := sort_one h1
  subst hk
  match rs, h3 with
  | [x], _ =>
    have h7 := h4 0 (by simp) (by simp)
    have h8 : imGet [(1, acV a h)] 1 = some (acV a h) := by rw [imGet_cons]; simp
    have h9 : some (acV a h) = some (acV x.1 x.2) := h8.symm.trans h7
    simp only [Option.some.injEq, acV, Value.agg.injEq] at h9
    have hr : rowW [x] = [.int .i64 a.pid, .int .i64 a.pc, .slice h.ra a.regs.length h.rc, .slice h.ba a.box.length h.bc, .slice h.la a.N h.lc] := by
      have := congrArg Array.toList h9
      exact this.symm
    rw [hr] at h5
    rcases h5.2 with ⟨_, hn⟩ | ⟨g, cap, cur, rfl, _⟩
    · cases hn
    · exact ⟨g, cap, rfl, h5, h6⟩
/-- The new system in blocks of its own. -/
theorem plainN_any (C mb : Nat) (code : List I) (t : Tm) (a : Option Addr) (c : Nat) (bs1 : List Nat) (w w2 w3 : World) (hst : StartP C mb (.slice a code.length c) t w2 w3) (hw2 : Below w.heap.size w w2) (hC : w.heap.size ≤ C) (hmb : w.heap.size ≤ mb) (hcode : GL eltI w2 code bs1 a) (hnd1 : bs1.Nodup) (hlo1 : ∀ b ∈ bs1, w.heap.size ≤ b) (hC1 : C ∉ bs1) (hmb1 : mb ∉ bs1) (hsm : SmI 1048576 code) (hlen : code.length ≤ 1048576) :
    Calls Tryz.prog 35 #[.pointer (some ⟨C, 0, none⟩)] w3 fun e w4 => ∃ h bs, e = .returned (plV (nPl code t) h) ∧ PlO w4 (nPl code t) h bs ∧ bs.Nodup ∧ (∀ b ∈ bs, w.heap.size ≤ b) ∧ Below w.heap.size w w4 := by
  obtain ⟨ra, rc, g, cap, x1, x2, x3, x4, x5, x6, b1, b2, hcr, hreg, hr1, hr2, hown, hv, hnd, hlo, ho, hp, hu, hz, hblk⟩ := hst
  refine (plain_any C mb _ 2 _ _ w3 hcr ⟨_, _, _, rfl⟩ ⟨_, _, _, rfl⟩ (by simp) (fun x hx => ?_) (fun p hp => ?_)).mono ?_
  · rw [List.mem_singleton] at hx; rw [hx]; show (Lit.int .i64 1).wf = true; decide
  · simp only [List.map_cons, List.map_nil, List.mem_singleton] at hp
    exact ⟨newA t, newW ra rc, by rw [hp, imGet_cons]; simp⟩
  · intro e w4 hpp
    obtain ⟨g5, cap5, rfl, hown5, hb4⟩ := plain_one hpp
    have hz2 := hw2.size
    have hz4 := hb4.size
    have hlt1 := hcode.lt
    have hg5 := (hown5.lt g5 rfl)
    have hgl := (hown.lt g rfl)
    have hb1l : ∀ x ∈ b1, x < w3.heap.size := OsL.lt _ _ _ hreg
    have hv4 := hv.below hb4
    have hown4 : w4.ownsRow w2.heap.size 96 6 (.slice (some ⟨g, 0, none⟩) 1 cap) 1 [.int .i64 1, .int .i64 1, .int .i64 x1, .int .i64 x2, .string x3, .slice x4 x5 x6] := hown.kept (row := none) ⟨hb4.os, hb4.tape, hb4.output, hb4.size, fun k hk _ => hb4.block k hk⟩ (.inr (by simp [Value.ownBlock]))
    have hcap : 1 ≤ cap ∧ cap ≤ maxLen := by
      rcases hown.2 with ⟨h, _⟩ | ⟨g', cap', cur, h, _, _, h1, h2, _⟩
      · cases h
      · simp only [Value.slice.injEq] at h; rw [h.2.2]; exact ⟨h1, h2⟩
    have hb2l : ∀ x ∈ b2, x < w3.heap.size := by
      obtain ⟨k, m, s, l⟩ := t
      obtain ⟨ao, cp, e, _, _, _, h4⟩ := hv
      exact OsL.lt _ _ _ h4
    obtain ⟨nd1, nd2, nd3⟩ := List.nodup_append.1 hnd
    have hW4 : Below w.heap.size w w4 := ⟨hb4.os.trans (ho.trans hw2.os), hb4.tape.trans (hp.trans hw2.tape), hb4.output.trans (hu.trans hw2.output), by omega, fun x hx => by rw [hb4.block x (by omega), hblk x (by omega) (by omega) (by omega), hw2.block x hx]⟩
    refine ⟨⟨a, c, some ⟨g5, 0, none⟩, cap5, some ⟨g, 0, none⟩, cap⟩, bs1 ++ ((g5 :: b1) ++ (g :: b2)), rfl, ⟨bs1, g5 :: b1, g :: b2, rfl, ⟨?_, ?_, ?_, smI_mono hsm (by unfold maxLen; omega), by show code.length ≤ _; unfold maxLen; omega, by show 1 ≤ maxLen; unfold maxLen; omega, by show 1 ≤ maxLen; unfold maxLen; omega⟩⟩, ?_, ?_, hW4⟩
    · refine hcode.keep (fun x hx hxl => ?_)
      rw [hb4.block x (by omega), hblk x hxl (fun q => hC1 (by rw [← q]; exact hx)) (fun q => hmb1 (by rw [← q]; exact hx))]
    · refine .inr ⟨by simp [nPl], g5, 0, b1, rfl, rfl, hown5.frozenAt, ?_⟩
      refine ⟨b1, [], by simp, ⟨newW ra rc, ⟨hown5.cellAt 0 (by omega), hown5.cellAt 1 (by omega), hown5.cellAt 2 (by omega), hown5.cellAt 3 (by omega), hown5.cellAt 4 (by omega)⟩, b1, [], [], by simp, ⟨OsL.below hb4 hreg, by show OsL w4 [] [] none; rw [OsL], .inl ⟨rfl, rfl⟩, hr1, hr2, Nat.le_refl _, by show 0 ≤ maxLen; omega, Nat.le_refl _, by show 0 ≤ maxLen; omega⟩⟩, rfl⟩
    · refine .inr ⟨by simp [nPl], g, 0, b2, rfl, rfl, hown4.frozenAt, ?_⟩
      refine ⟨b2, [], by simp, ⟨hown4.cellAt 0 (by omega), hown4.cellAt 1 (by omega), ?_⟩, rfl⟩
      obtain ⟨k, m, s, l⟩ := t
      obtain ⟨ao, cp, e, q1, q2, q3, q4⟩ := hv4
      simp only [Value.agg.injEq, Array.mk.injEq, List.cons.injEq, Value.int.injEq, Value.string.injEq, true_and, and_true] at e
      show OsT w4 _ b2 g 2
      rw [OsT]
      refine ⟨?_, ?_, ?_, q1, ao, cp, ?_, q2, q3, q4⟩
      · rw [← e.1]; exact hown4.cellAt 2 (by omega)
      · rw [← e.2.1]; exact hown4.cellAt 3 (by omega)
      · rw [← e.2.2.1]; exact hown4.cellAt 4 (by omega)
      · rw [← e.2.2.2]; exact hown4.cellAt 5 (by omega)
    · refine List.nodup_append.2 ⟨hnd1, ?_, fun x hx y hy q => ?_⟩
      · refine List.nodup_append.2 ⟨List.nodup_cons.2 ⟨fun hm => by have := hb1l g5 hm; omega, nd1⟩, nd2, fun x hx y hy q => ?_⟩
        rcases List.mem_cons.1 hx with e | e
        · subst e
          rcases List.mem_cons.1 hy with e2 | e2
          · omega
          · have := hb2l y e2; omega
        · exact nd3 x e y hy q
      · have h1 := hlt1 x hx
        rcases List.mem_append.1 hy with e | e
        · rcases List.mem_cons.1 e with e | e
          · omega
          · have := hlo y (by simp [e]); omega
        · have := hlo y (List.mem_append.2 (.inr e)); omega
    · intro x hx
      rcases List.mem_append.1 hx with e | e
      · exact hlo1 x e
      · rcases List.mem_append.1 e with e | e
        · rcases List.mem_cons.1 e with e | e
          · omega
          · have := hlo x (by simp [e]); omega
        · have := hlo x (List.mem_append.2 (.inr e)); omega
end Go.Proofs.YtjibnlpjpbileaaGreatDoor
namespace Go.Proofs.YtjibnlpjpbileaaGreatDoor
open Go.RowKit Atom
open Go.Proofs.YtjibnlpjpbileaaGreatDoor.Code
set_option linter.unusedVariables false

theorem zPl_O (w : World) : PlO w zPl ⟨none, 0, none, 0, none, 0⟩ [] := ⟨[], [], [], rfl, ⟨GL.nil _ _, GL.nil _ _, GL.nil _ _, (fun x hx => by cases hx), Nat.zero_le _, Nat.zero_le _, Nat.zero_le _⟩⟩
set_option maxHeartbeats 4000000 in
set_option maxRecDepth 100000 in
theorem implPlainNew_any (code : List I) (ao : Option Addr) (cap : Nat) (t : Tm) (bs : List Nat) (v : Value) (w : World) (hr : RowI w ao code) (hl : code.length ≤ 1048576) (hsm : SmI 1048576 code) (hv : OsV w bs t v) (hnd : bs.Nodup) (hnt : ntL [t] ≤ 4194304) (hps : PlS (nPl code t)) (hS : Shp w) (hP : Pow w) (hE : Es.Ety w) :
    Calls Tryz.prog 11 #[.slice ao code.length cap, v] w fun e w' => ∃ h bs', e = .returned (.tuple #[plV (aPl code t) h, .bool (plB (nPl code t))]) ∧ PlO w' (aPl code t) h bs' ∧ bs'.Nodup ∧ (∀ b ∈ bs', w.heap.size ≤ b) ∧ Below w.heap.size w w' := by
  obtain ⟨va, vb, vc, vd, ve, vf, rfl⟩ := hv.form
  have hbl : ∀ x ∈ bs, x < w.heap.size := by
    obtain ⟨k, m, s, l⟩ := t
    obtain ⟨ao, cap, e, _, _, _, h4⟩ := hv
    exact OsL.lt _ _ _ h4
  obtain ⟨w0, hw0⟩ : ∃ w0, w0 = (w.alloc (.cells #[.int .i64 va, .int .i64 vb, .string vc, .slice vd ve vf] 38)).alloc (.cells #[.slice none 0 0, .slice none 0 0, .int .i64 0, .slice none 0 0] 32) := ⟨_, rfl⟩
  have hb0 : Below w.heap.size w w0 := by rw [hw0]; exact ((Below.refl _ _).alloc (Nat.le_refl _) _).alloc (by simp) _
  have hz0 : w0.heap.size = w.heap.size + 2 := by rw [hw0]; simp
  have qt : ∀ x, w0.cell? ⟨w.heap.size, x, none⟩ = (#[.int .i64 va, .int .i64 vb, .string vc, .slice vd ve vf] : Array Value)[x]? := fun x => by
    rw [hw0, ((Below.refl _ _).alloc (Nat.le_refl _) _).cell (p := ⟨w.heap.size, x, none⟩) (by simp), World.cell?_alloc_new]
  have qz : ∀ x, w0.cell? ⟨w.heap.size + 1, x, none⟩ = (#[.slice none 0 0, .slice none 0 0, .int .i64 0, .slice none 0 0] : Array Value)[x]? := fun x => by
    have e : (w.alloc (.cells #[.int .i64 va, .int .i64 vb, .string vc, .slice vd ve vf] 38)).heap.size = w.heap.size + 1 := by simp
    rw [hw0, ← e, World.cell?_alloc_new]
  have qf : ∀ x, w0.frozen? ⟨w.heap.size + 1, x, none⟩ = false := fun x => by
    have e : (w.alloc (.cells #[.int .i64 va, .int .i64 vb, .string vc, .slice vd ve vf] 38)).heap.size = w.heap.size + 1 := by simp
    rw [hw0, ← e]; simp
  have HOC : Hid (Calls Tryz.prog 33 #[.slice ao code.length cap] w0 fun e w' => ∃ a c bs, e = .returned (.slice a code.length c) ∧ GL eltI w' code bs a ∧ bs.Nodup ∧ (∀ b ∈ bs, w0.heap.size ≤ b) ∧ code.length ≤ c ∧ c ≤ maxLen ∧ Below w0.heap.size w0 w') := ownCode_any code ao cap w0 (hr.below hb0) hl hsm
  have HV : Hid (OsV w bs t (.agg #[.int .i64 va, .int .i64 vb, .string vc, .slice vd ve vf]) ∧ bs.Nodup ∧ ntL [t] ≤ 4194304 ∧ (∀ x ∈ bs, x < w.heap.size)) := ⟨hv, hnd, hnt, hbl⟩
  have HB0 : Hid (Below w.heap.size w w0 ∧ w0.heap.size = w.heap.size + 2) := ⟨hb0, hz0⟩
  have HM : Hid (code.length ≤ 1048576 ∧ SmI 1048576 code ∧ PlS (nPl code t) ∧ Shp w ∧ Pow w ∧ Es.Ety w) := ⟨hl, hsm, hps, hS, hP, hE⟩
  have HQ : Hid (∀ wc, Below w0.heap.size w0 wc → (∀ x, wc.cell? ⟨w.heap.size, x, none⟩ = (#[.int .i64 va, .int .i64 vb, .string vc, .slice vd ve vf] : Array Value)[x]?) ∧ (∀ x, wc.cell? ⟨w.heap.size + 1, x, none⟩ = (#[.slice none 0 0, .slice none 0 0, .int .i64 0, .slice none 0 0] : Array Value)[x]?) ∧ ∀ x, wc.frozen? ⟨w.heap.size + 1, x, none⟩ = false) := fun wc hb => ⟨fun x => by rw [hb.cell (p := ⟨w.heap.size, x, none⟩) (by show w.heap.size < _; omega)]; exact qt x, fun x => by rw [hb.cell (p := ⟨w.heap.size + 1, x, none⟩) (by show w.heap.size + 1 < _; omega)]; exact qz x, fun x => (World.frozen?_of_block (w := w0) (hb.block (w.heap.size + 1) (by omega))).trans (qf x)⟩
  clear hr hl hsm hv hnd hnt hps hS hP hE hbl hb0 hz0 qt qz qf
  go_enter Tryz.func11, Tryz.ntmps11
  go_wp2_with (go_at_call 33; fail)
  rw [← hw0]
  clear hw0
  refine HOC.out.mono ?_
  rintro e w1 ⟨a, c, b1, rfl, hg1, hn1, hlo1, hc1, hc2, hb1⟩
  have HB1 : Hid (Below w0.heap.size w0 w1) := hb1
  have HG1 : Hid (GL eltI w1 code b1 a ∧ b1.Nodup ∧ (∀ b ∈ b1, w0.heap.size ≤ b) ∧ (∀ b ∈ b1, b < w1.heap.size)) := ⟨hg1, hn1, hlo1, hg1.lt⟩
  have KCR : Hid (Calls Tryz.prog 32 #[.agg #[.slice a code.length c, .slice none 0 0, .int .i64 1, .slice none 0 0]] w1 fun e w' => ∃ C mb, e = .returned (.pointer (some ⟨C, 0, none⟩)) ∧ Crw w' C mb (.slice a code.length c) 1 (.slice none 0 0) [] ∧ w1.heap.size ≤ C ∧ w1.heap.size ≤ mb ∧ Below w1.heap.size w1 w') := by
    refine (crowdOf_any (.slice a code.length c) (.slice none 0 0) ⟨_, _, _, rfl⟩ ⟨_, _, _, rfl⟩ [] none 0 1 w1 (.inl rfl) (Nat.zero_le _) (fun i j hi => by cases hi)).mono ?_
    rintro e w' ⟨C, mb, es, h1, h2, h3, h4, h5, h6⟩
    have he : es = [] := by
      cases es with
      | nil => rfl
      | cons x r => exact absurd h3 (by simp [EntA])
    rw [he] at h2
    exact ⟨C, mb, h1, h2, h4, h5, h6⟩
  clear hg1 hn1 hlo1 hc1 hc2 hb1 HOC
  go_wp2_with (go_at_call 32; fail)
  refine KCR.out.mono ?_
  rintro e w2 ⟨C, mb, rfl, hcr, hC, hmb, hb2⟩
  have hb02 : Below w0.heap.size w0 w2 := HB1.out.trans (hb2.mono HB1.out.size)
  have hbw2 : Below w.heap.size w w2 := HB0.out.1.trans (hb02.mono HB0.out.1.size)
  have HB2 : Hid (Below w0.heap.size w0 w2 ∧ Below w.heap.size w w2 ∧ w1.heap.size ≤ C ∧ w1.heap.size ≤ mb ∧ GL eltI w2 code b1 a) := ⟨hb02, hbw2, hC, hmb, HG1.out.1.below hb2⟩
  have KST : Hid (Calls Tryz.prog 34 #[.pointer (some ⟨C, 0, none⟩), .int .i64 0, .agg #[.int .i64 va, .int .i64 vb, .string vc, .slice vd ve vf]] w2 fun e w' => e = .returned (.bool true) ∧ StartP C mb (.slice a code.length c) t w2 w') :=
    start0_any C mb _ t bs _ w2 hcr (HV.out.1.below hbw2) HV.out.2.1 HV.out.2.2.1 (fun hm => by have := HV.out.2.2.2 _ hm; have := HB0.out.2; have := HB1.out.size; omega) (fun hm => by have := HV.out.2.2.2 _ hm; have := HB0.out.2; have := HB1.out.size; omega)
  have e0 := (HQ.out w2 hb02).1
  have t0 : w2.cell? ⟨w.heap.size, 0, none⟩ = some (.int .i64 va) := e0 0
  have t1 : w2.cell? ⟨w.heap.size, 1, none⟩ = some (.int .i64 vb) := e0 1
  have t2 : w2.cell? ⟨w.heap.size, 2, none⟩ = some (.string vc) := e0 2
  have t3 : w2.cell? ⟨w.heap.size, 3, none⟩ = some (.slice vd ve vf) := e0 3
  clear hcr hC hmb hb2 hb02 hbw2 KCR e0
  go_wp2_with (go_at_call 34; fail)
  refine KST.out.mono ?_
  rintro e w3 ⟨rfl, hst⟩
  have hb03 : Below w0.heap.size w0 w3 := by
    have hst' := hst
    obtain ⟨_, _, _, _, _, _, _, _, _, _, _, _, _, _, _, _, _, _, _, _, ho, hp, hu, hz, hk⟩ := hst'
    have h1 := HB2.out.1
    have hz2 := h1.size
    have hz1 := HB1.out.size
    have h3 := HB2.out.2.2.1
    have h4 := HB2.out.2.2.2.1
    exact ⟨ho.trans h1.os, hp.trans h1.tape, hu.trans h1.output, by omega, fun x hx => by rw [hk x (by omega) (by omega) (by omega), h1.block x hx]⟩
  have KPL : Hid (Calls Tryz.prog 35 #[.pointer (some ⟨C, 0, none⟩)] w3 fun e w4 => ∃ h bs, e = .returned (.agg #[.slice h.ca code.length h.cc, .slice h.aa 1 h.ac, .int .i64 2, .slice h.oa 1 h.oc]) ∧ PlO w4 (nPl code t) h bs ∧ bs.Nodup ∧ (∀ b ∈ bs, w0.heap.size ≤ b) ∧ Below w0.heap.size w0 w4) :=
    plainN_any C mb code t a c b1 w0 w2 w3 hst HB2.out.1 (by have := HB1.out.size; have := HB2.out.2.2.1; omega) (by have := HB1.out.size; have := HB2.out.2.2.2.1; omega) HB2.out.2.2.2.2 HG1.out.2.1 HG1.out.2.2.1 (fun hm => by have := HG1.out.2.2.2 _ hm; have := HB2.out.2.2.1; omega) (fun hm => by have := HG1.out.2.2.2 _ hm; have := HB2.out.2.2.2.1; omega) HM.out.2.1 HM.out.1
  clear hst hb03 KST t0 t1 t2 t3
  go_wp2_with (go_at_call 35; fail)
  refine KPL.out.mono ?_
  rintro e w4 ⟨⟨h1, h2, h3, h4, h5, h6⟩, bs4, rfl, hpo, hnd4, hlo4, hb4⟩
  dsimp only
  obtain ⟨w5, hw5⟩ : ∃ w5, w5 = w4.alloc (.cells #[.slice h1 code.length h2, .slice h3 1 h4, .int .i64 2, .slice h5 1 h6] 32) := ⟨_, rfl⟩
  have hb45 : Below w4.heap.size w4 w5 := by rw [hw5]; exact (Below.refl _ _).alloc (Nat.le_refl _) _
  have hb05 : Below w0.heap.size w0 w5 := hb4.trans (hb45.mono hb4.size)
  have hbw5 : Below w.heap.size w w5 := HB0.out.1.trans (hb05.mono HB0.out.1.size)
  have KOK : Hid (Calls Tryz.prog 36 #[.agg #[.slice h1 code.length h2, .slice h3 1 h4, .int .i64 2, .slice h5 1 h6]] w5 fun e w' => e = .returned (.bool (plB (nPl code t))) ∧ Below w5.heap.size w5 w') := implPlainOk_any (nPl code t) ⟨h1, h2, h3, h4, h5, h6⟩ w5 (hpo.plR.below hb45) HM.out.2.2.1 (HM.out.2.2.2.1.below hbw5) (HM.out.2.2.2.2.1.below hbw5) (HM.out.2.2.2.2.2.below hbw5)
  have HO5 : Hid (PlO w5 (nPl code t) ⟨h1, h2, h3, h4, h5, h6⟩ bs4 ∧ bs4.Nodup ∧ (∀ b ∈ bs4, w0.heap.size ≤ b) ∧ Below w0.heap.size w0 w5 ∧ w0.heap.size ≤ w4.heap.size) := ⟨hpo.below hb45, hnd4, hlo4, hb05, hb4.size⟩
  have HQ5 : Hid (∀ wc, Below w5.heap.size w5 wc → ∀ x, wc.cell? ⟨w4.heap.size, x, none⟩ = (#[.slice h1 code.length h2, .slice h3 1 h4, .int .i64 2, .slice h5 1 h6] : Array Value)[x]?) := fun wc hb x => by
    have hz : w5.heap.size = w4.heap.size + 1 := by rw [hw5]; simp
    rw [hb.cell (p := ⟨w4.heap.size, x, none⟩) (by show w4.heap.size < _; omega), hw5, World.cell?_alloc_new]
  clear hpo hnd4 hlo4 hb4 hb45 hb05 hbw5 KPL
  go_wp2_with (go_at_call 36; fail)
  rw [← hw5]
  clear hw5
  refine KOK.out.mono ?_
  rintro e w6 ⟨rfl, hb6⟩
  have hb06 : Below w0.heap.size w0 w6 := HO5.out.2.2.2.1.trans (hb6.mono HO5.out.2.2.2.1.size)
  have hq5 := HQ5.out w6 hb6
  obtain ⟨_, hqz, hqf⟩ := HQ.out w6 hb06
  have p0 : w6.cell? ⟨w4.heap.size, 0, none⟩ = some (.slice h1 code.length h2) := hq5 0
  have p1 : w6.cell? ⟨w4.heap.size, 1, none⟩ = some (.slice h3 1 h4) := hq5 1
  have p2 : w6.cell? ⟨w4.heap.size, 2, none⟩ = some (.int .i64 2) := hq5 2
  have p3 : w6.cell? ⟨w4.heap.size, 3, none⟩ = some (.slice h5 1 h6) := hq5 3
  have r0 : w6.cell? ⟨w.heap.size + 1, 0, none⟩ = some (.slice none 0 0) := hqz 0
  have r1 : w6.cell? ⟨w.heap.size + 1, 1, none⟩ = some (.slice none 0 0) := hqz 1
  have r2 : w6.cell? ⟨w.heap.size + 1, 2, none⟩ = some (.int .i64 0) := hqz 2
  have r3 : w6.cell? ⟨w.heap.size + 1, 3, none⟩ = some (.slice none 0 0) := hqz 3
  have HO6 : Hid (PlO w6 (nPl code t) ⟨h1, h2, h3, h4, h5, h6⟩ bs4 ∧ Below w.heap.size w w6 ∧ (∀ b ∈ bs4, w.heap.size + 2 ≤ b)) := ⟨HO5.out.1.below hb6, HB0.out.1.trans (hb06.mono HB0.out.1.size), fun b hb => by have := HO5.out.2.2.1 b hb; have := HB0.out.2; omega⟩
  have hne : ¬ w.heap.size + 1 = w4.heap.size := by have := HO5.out.2.2.2.2; have := HB0.out.2; omega
  have HAP : Hid ((plB (nPl code t) = true → aPl code t = nPl code t) ∧ (plB (nPl code t) = false → aPl code t = zPl)) := ⟨fun h => by unfold aPl; rw [if_pos h], fun h => by unfold aPl; rw [h]; rfl⟩
  clear hb6 hb06 hq5 hqz HQ5 HQ KOK
  obtain ⟨B, hB⟩ : ∃ B, plB (nPl code t) = B := ⟨_, rfl⟩
  rw [hB]
  have HBB : Hid (plB (nPl code t) = B) := hB
  clear hB
  cases B
  · go_wp2_with fail
    refine bodyPost_ret (v := .tuple #[.agg #[.slice none 0 0, .slice none 0 0, .int .i64 0, .slice none 0 0], .bool false]) (by simp [results, Tryz.results11, go_sem, r0, r1, r2, r3]) rfl ?_
    rw [HAP.out.2 HBB.out, HBB.out]
    exact ⟨⟨none, 0, none, 0, none, 0⟩, [], rfl, zPl_O _, List.nodup_nil, (fun b hb => by cases hb), (((HO6.out.2.1.setCell (by show w.heap.size ≤ w.heap.size + 1; omega) _).setCell (by show w.heap.size ≤ w.heap.size + 1; omega) _).setCell (by show w.heap.size ≤ w.heap.size + 1; omega) _).setCell (by show w.heap.size ≤ w.heap.size + 1; omega) _⟩
  · go_wp2_with fail
    refine bodyPost_ret (v := .tuple #[.agg #[.slice h1 code.length h2, .slice h3 1 h4, .int .i64 2, .slice h5 1 h6], .bool true]) (by simp [results, Tryz.results11, go_sem, r0, r1, r2, r3]) rfl ?_
    rw [HAP.out.1 HBB.out, HBB.out]
    refine ⟨⟨h1, h2, h3, h4, h5, h6⟩, bs4, rfl, HO6.out.1.keep (fun x hx _ => ?_), HO5.out.2.1, fun b hb => by have := HO6.out.2.2 b hb; omega, (((HO6.out.2.1.setCell (by show w.heap.size ≤ w.heap.size + 1; omega) _).setCell (by show w.heap.size ≤ w.heap.size + 1; omega) _).setCell (by show w.heap.size ≤ w.heap.size + 1; omega) _).setCell (by show w.heap.size ≤ w.heap.size + 1; omega) _⟩
    have hx2 := HO6.out.2.2 x hx
    rw [Below.heap_setCell _ ⟨w.heap.size + 1, 3, none⟩ _ x (by show x ≠ w.heap.size + 1; omega), Below.heap_setCell _ ⟨w.heap.size + 1, 2, none⟩ _ x (by show x ≠ w.heap.size + 1; omega), Below.heap_setCell _ ⟨w.heap.size + 1, 1, none⟩ _ x (by show x ≠ w.heap.size + 1; omega), Below.heap_setCell _ ⟨w.heap.size + 1, 0, none⟩ _ x (by show x ≠ w.heap.size + 1; omega)]
end Go.Proofs.YtjibnlpjpbileaaGreatDoor
namespace Go.Proofs.YtjibnlpjpbileaaGreatDoor
open Go.RowKit Atom
open Go.Proofs.YtjibnlpjpbileaaGreatDoor.Code
set_option linter.unusedVariables false

set_option maxHeartbeats 4000000 in
set_option maxRecDepth 100000 in
theorem l11Says0_any (kind pid : Int) (t : Tm) (v : Value) (w : World) (hv : RepV 0 w t v) (hst : StS t) :
    Calls Tryz.prog 28 #[.slice none 0 0, .int .i64 kind, .int .i64 pid, v] w fun e w' => ∃ g cap, e = .returned (.slice (some ⟨g, 0, none⟩) 1 cap) ∧ (∀ wz : World, (∀ b, w.heap.size ≤ b → b < w'.heap.size → wz.heap[b]? = w'.heap[b]?) → RowS wz (some ⟨g, 0, none⟩) [⟨kind, pid, t⟩]) ∧ Below w.heap.size w w' := by
  obtain ⟨va, vb, vc, vd, ve, vf, rfl⟩ := hv.form
  obtain ⟨w0, hw0⟩ : ∃ w0, w0 = w.alloc (.cells #[.int .i64 va, .int .i64 vb, .string vc, .slice vd ve vf] 38) := ⟨_, rfl⟩
  have hb0 : Below w.heap.size w w0 := by rw [hw0]; exact (Below.refl _ _).alloc (Nat.le_refl _) _
  have q0 : ∀ x, w0.cell? ⟨w.heap.size, x, none⟩ = (#[.int .i64 va, .int .i64 vb, .string vc, .slice vd ve vf] : Array Value)[x]? := fun x => by rw [hw0, World.cell?_alloc_new]
  have HCZ : Hid (Calls Tryz.prog 61 #[.agg #[.int .i64 va, .int .i64 vb, .string vc, .slice vd ve vf]] w0 fun e w' => ∃ a b s d ln cp, e = .returned (.agg #[.int .i64 a, .int .i64 b, .string s, .slice d ln cp]) ∧ RpV (fun b => w.heap.size ≤ b) w' t (.agg #[.int .i64 a, .int .i64 b, .string s, .slice d ln cp]) ∧ Below w0.heap.size w0 w') := by
    refine (czT_all t w0 _ ((Keeps.below hb0 0).repV hv) hst).mono ?_
    rintro e w' ⟨v', rfl, h1, h2⟩
    have h3 : RepV 0 w' t v' := h1.rep
    obtain ⟨a, b, s, d, ln, cp, rfl⟩ := h3.form
    have hz : w.heap.size ≤ w0.heap.size := hb0.size
    exact ⟨a, b, s, d, ln, cp, rfl, (Moves.sub (fun b hb => Nat.le_trans hz hb)).repV h1, h2⟩
  have d0 : w0.cell? ⟨w.heap.size, 0, none⟩ = some (.int .i64 va) := q0 0
  have d1 : w0.cell? ⟨w.heap.size, 1, none⟩ = some (.int .i64 vb) := q0 1
  have d2 : w0.cell? ⟨w.heap.size, 2, none⟩ = some (.string vc) := q0 2
  have d3 : w0.cell? ⟨w.heap.size, 3, none⟩ = some (.slice vd ve vf) := q0 3
  have HB0 : Hid (Below w.heap.size w w0) := hb0
  obtain ⟨i0, hi, hzz0, hzz1, hzz2⟩ := infoParts9 infoSaid
  rw [hw0] at d0 d1 d2 d3
  clear hv hst hb0 q0
  go_enter Tryz.func28, Tryz.ntmps28
  go_wp2_with (go_at_call 61; fail)
  rw [← hw0]
  clear hw0 d0 d1 d2 d3
  refine HCZ.out.mono ?_
  rintro e w5 ⟨a5, b5, s5, o5, l5, p5, rfl, hv5, hb5⟩
  have HW5 : Hid (Below w.heap.size w w5 ∧ RpV (fun b => w.heap.size ≤ b) w5 t (.agg #[.int .i64 a5, .int .i64 b5, .string s5, .slice o5 l5 p5])) := ⟨HB0.out.trans (hb5.mono HB0.out.size), hv5⟩
  clear hv5 hb5 HCZ
  go_wp2_with (at_builtin; refine wpList_append_lies _ rfl _ _ 30 rfl w.heap.size 96 i0 (.agg #[.int .i64 0, .int .i64 0, .int .i64 0, .int .i64 0, .string ⟨#[]⟩, .slice none 0 0]) 6 72 undSaidS hi hzz0 hzz1 hzz2 rfl (by decide) (.slice none 0 0) 0 [] rfl (World.ownsRow_nil _ _ _ _) ⟨w5.heap.size, 0, none⟩ 1 1 [.int .i64 kind, .int .i64 pid, .int .i64 a5, .int .i64 b5, .string s5, .slice o5 l5 p5] rfl rfl six_news (by intro u' hu'; simp at hu'; rcases hu' with rfl | rfl | rfl | rfl | rfl | rfl <;> rfl) (by decide) (by unfold maxLen; omega) (by omega) (by have := HW5.out.1.size; simp; omega) _ rfl ?_; intro g cap w6 hown6 hgrow6 hat6 hlt6)
  have hz5 := HW5.out.1.size
  have hb6 : Below w5.heap.size w5 w6 := by
    have hs1 : (w5.alloc (.cells #[.int .i64 kind, .int .i64 pid, .int .i64 a5, .int .i64 b5, .string s5, .slice o5 l5 p5] 96)).heap.size = w5.heap.size + 1 := World.size_alloc _ _
    refine ⟨hgrow6.os, hgrow6.tape, hgrow6.output, by have := hgrow6.size; omega, fun x hx => ?_⟩
    rw [hgrow6.block x (by omega) (by simp [Value.ownBlock])]
    show (w5.heap.push _)[x]? = _
    rw [Array.getElem?_push, if_neg (by omega)]
  have hv6 : RpV (fun b => w.heap.size ≤ b) w6 t (.agg #[.int .i64 a5, .int .i64 b5, .string s5, .slice o5 l5 p5]) := Moves.repV (S := fun b => w.heap.size ≤ b) (fun b o v hb hv => ⟨hb, (hb6.cell (p := ⟨b, o, none⟩) (World.block_lt_of_cell? w5 _ hv)).trans hv⟩) HW5.out.2
  have hgw : w.heap.size ≤ g := by
    obtain ⟨_, h | ⟨g', cp', cur, e, h, _⟩⟩ := hown6
    · cases h.1
    · simp only [Value.slice.injEq, Option.some.injEq, Addr.mk.injEq, and_true, true_and] at e; omega
  refine bodyPost_ret (v := .slice (some ⟨g, 0, none⟩) 1 cap) (by simp [results, Tryz.results28, go_sem]) rfl ⟨g, cap, rfl, fun wz hwz => .inr ⟨g, 0, rfl, fun j hj => ?_⟩, HW5.out.1.trans (hb6.mono hz5)⟩
  obtain rfl : j = 0 := by simp at hj; omega
  have kz : ∀ x v, w6.cell? ⟨g, x, none⟩ = some v → wz.cell? ⟨g, x, none⟩ = some v := fun x v h => (World.cell?_of_block (w := w6) (hwz g hgw hlt6)).trans h
  have hv6 : RepV 0 wz t (.agg #[.int .i64 a5, .int .i64 b5, .string s5, .slice o5 l5 p5]) := RpV.rep (Moves.repV (S := fun b => w.heap.size ≤ b) (S' := fun b => w.heap.size ≤ b) (fun b o v hb hv => ⟨hb, (World.cell?_of_block (w := w6) (hwz b hb (World.block_lt_of_cell? w6 _ hv))).trans hv⟩) hv6)
  refine ⟨kz _ _ (hown6.cellAt 0 (by omega)), kz _ _ (hown6.cellAt 1 (by omega)), ?_⟩
  obtain ⟨k, m, s, l⟩ := t
  obtain ⟨ao, cp, e, q1, q2, q3, q4⟩ := hv6
  simp only [Value.agg.injEq, Array.mk.injEq, List.cons.injEq, Value.int.injEq, Value.string.injEq, true_and, and_true] at e
  show RepT 0 wz (.mk k m s l) g 2
  rw [RepT]
  refine ⟨?_, ?_, ?_, q1, ao, cp, ?_, q2, q3, q4⟩
  · rw [← e.1]; exact kz _ _ (hown6.cellAt 2 (by omega))
  · rw [← e.2.1]; exact kz _ _ (hown6.cellAt 3 (by omega))
  · rw [← e.2.2.1]; exact kz _ _ (hown6.cellAt 4 (by omega))
  · rw [← e.2.2.2]; exact kz _ _ (hown6.cellAt 5 (by omega))
end Go.Proofs.YtjibnlpjpbileaaGreatDoor
namespace Go.Proofs.YtjibnlpjpbileaaGreatDoor
open Go.RowKit Atom
open Go.Proofs.YtjibnlpjpbileaaGreatDoor.Code
set_option linter.unusedVariables false

set_option maxHeartbeats 1000000 in
theorem l11Has_any (ao : Option Addr) (N cap : Nat) (f : Nat → Int) (x : Int) (w : World) (hr : RdI w ao N f) (hN : N ≤ maxLen) :
    Calls Tryz.prog 99 #[.slice ao N cap, .int .i64 x] w fun e w' => e = .returned (.bool (hasB f N x)) ∧ w' = w := by
  have HR : Hid (RdI w ao N f) := hr
  clear hr
  unfold maxLen at hN
  go_enter Tryz.func99, Tryz.ntmps99
  go_wp2_with fail
  go_loopw [5] (fun i wr => ∃ k : Nat, k ≤ N ∧ i = .int .i64 k ∧ wr = w ∧ ∀ j, j < k → f j ≠ x) (fun i _ => N - (intOf i).toNat)
  case atStart => exact ⟨0, Nat.zero_le _, rfl, rfl, fun j hj => absurd hj (Nat.not_lt_zero _)⟩
  case round =>
    obtain ⟨k, hk, rfl, hw, hn⟩ := hrel
    obtain rfl := hw.symm
    have HN : Hid (∀ j, j < k → f j ≠ x) := hn
    clear hn
    by_cases hlt : k < N
    · obtain ⟨b, o, rfl, hc⟩ := HR.out (by omega)
      have ck := hc k hlt
      by_cases he : f k = x
      · have HF : Hid (hasB f N x = true) := hasB_yes hlt he
        have q1 : (f k == x) = true := by simp [he]
        generalize f k = y at ck q1
        clear hc he
        go_wp2_with fail
        go_ret
        exact ⟨ret_bool HF.out.symm, rfl⟩
      · have q1 : (f k == x) = false := by simp [he]
        have HS : Hid (∀ j, j < k + 1 → f j ≠ x) := fun j hj => by
          rcases Nat.lt_or_ge j k with h | h
          · exact HN.out j h
          · have : j = k := by omega
            subst this; exact he
        generalize f k = y at ck q1
        clear hc he
        go_wp2_with fail
        go_roundw
        case rel => exact ⟨k + 1, by omega, by go_num, by first | trivial | rfl, HS.out⟩
        case measure => simp [intOf]; omega
    · have HF : Hid (hasB f N x = false) := hasB_no fun j hj => HN.out j (by omega)
      go_wp2_with fail
      go_ret
      exact ⟨ret_bool HF.out.symm, rfl⟩

/-- The box of a system. -/
abbrev plC (p : Pl) (h : Pw) : Array Value := #[.slice h.ca p.code.length h.cc, .slice h.aa p.acts.length h.ac, .int .i64 p.next, .slice h.oa p.out.length h.oc]

set_option maxHeartbeats 1000000 in
set_option maxRecDepth 100000 in
theorem l11At_any (p : Pl) (h : Pw) (pid : Int) (w : World) (hr : RowA w h.aa p.acts) (hl : p.acts.length ≤ maxLen) :
    Calls Tryz.prog 57 #[plV p h, .int .i64 pid] w fun e w' => e = .returned (.int .i64 (atZ p.acts pid)) ∧ Below w.heap.size w w' := by
  obtain ⟨code, acts, next, out⟩ := p
  obtain ⟨ca, cc, aa, ac, oa, oc⟩ := h
  unfold maxLen at hl
  dsimp only at hl hr
  obtain ⟨w0, hw0⟩ : ∃ w0, w0 = w.alloc (.cells #[.slice ca code.length cc, .slice aa acts.length ac, .int .i64 next, .slice oa out.length oc] 32) := ⟨_, rfl⟩
  have hb0 : Below w.heap.size w w0 := by rw [hw0]; exact (Below.refl _ _).alloc (Nat.le_refl _) _
  have HB0 : Hid (Below w.heap.size w w0) := hb0
  have HR : Hid (RowA w0 aa acts) := hr.below hb0
  have d1 : w0.cell? ⟨w.heap.size, 1, none⟩ = some (.slice aa acts.length ac) := by rw [hw0, World.cell?_alloc_new]; rfl
  clear hr hb0
  go_enter Tryz.func57, Tryz.ntmps57
  go_wp2_with fail
  rw [← hw0]
  clear hw0
  go_loopw [5] (fun i wr => ∃ k : Nat, k ≤ acts.length ∧ i = .int .i64 k ∧ wr = w0 ∧ ∀ j (hj : j < acts.length), j < k → acts[j].pid ≠ pid) (fun i _ => acts.length - (intOf i).toNat)
  case atStart => exact ⟨0, Nat.zero_le _, rfl, rfl, fun j _ hj => absurd hj (Nat.not_lt_zero _)⟩
  case round =>
    obtain ⟨k, hk, rfl, hw, hn⟩ := hrel
    obtain rfl := hw.symm
    have HN : Hid (∀ j (hj : j < acts.length), j < k → acts[j].pid ≠ pid) := hn
    clear hn hw
    by_cases hlt : k < acts.length
    · rcases HR.out with h0 | ⟨b, o, rfl, hrow⟩
      · rw [h0] at hlt; simp at hlt
      obtain ⟨hh, hbx, _⟩ := hrow k hlt
      have ck := hbx.c0
      clear hrow hbx
      by_cases he : acts[k].pid = pid
      · have HF : Hid (atZ acts pid = k) := atZ_yes hlt he HN.out
        have q1 : (acts[k].pid == pid) = true := by simp [he]
        clear he
        generalize acts[k].pid = y at ck q1
        go_wp2_with fail
        go_ret
        exact ⟨ret_int HF.out.symm, HB0.out⟩
      · have q1 : (acts[k].pid == pid) = false := by simp [he]
        have HS : Hid (∀ j (hj : j < acts.length), j < k + 1 → acts[j].pid ≠ pid) := fun j hj hjk => by
          rcases Nat.lt_or_ge j k with h | h
          · exact HN.out j hj h
          · have : j = k := by omega
            subst this; exact he
        clear he
        generalize acts[k].pid = y at ck q1
        go_wp2_with fail
        go_roundw
        case rel => exact ⟨k + 1, by omega, by go_num, by first | trivial | rfl, HS.out⟩
        case measure => simp [intOf]; omega
    · have HF : Hid (atZ acts pid = -1) := atZ_no fun j hj => HN.out j hj (by omega)
      go_wp2_with fail
      go_ret
      exact ⟨ret_int HF.out.symm, HB0.out⟩

theorem pidB_in (x : Int) : Atom.inB x 1 99999 = pidB x := rfl
set_option maxHeartbeats 2000000 in
set_option maxRecDepth 100000 in
theorem l11Said_any (l : List Sd) (ao : Option Addr) (cap : Nat) (w : World) (hr : RowS w ao l) (hl : l.length ≤ maxLen) :
    Calls Tryz.prog 64 #[.slice ao l.length cap] w fun e w' => e = .returned (.bool (saidB l)) ∧ Below w.heap.size w w' := by
  have HR : Hid (RowS w ao l) := hr
  clear hr
  unfold maxLen at hl
  go_enter Tryz.func64, Tryz.ntmps64
  go_wp2_with fail
  go_loopw [3] (fun i wr => ∃ k : Nat, k ≤ l.length ∧ i = .int .i64 k ∧ Below w.heap.size w wr ∧ ∀ j (hj : j < l.length), j < k → sdB l[j] = true) (fun i _ => l.length - (intOf i).toNat)
  case atStart => exact ⟨0, Nat.zero_le _, rfl, Below.refl _ _, fun j _ hj => absurd hj (Nat.not_lt_zero _)⟩
  case round =>
    obtain ⟨k, hk, rfl, hb, hn⟩ := hrel
    have HB : Hid (Below w.heap.size w wr) := hb
    have HN : Hid (∀ j (hj : j < l.length), j < k → sdB l[j] = true) := hn
    clear hn hb
    by_cases hlt : k < l.length
    · rcases HR.out.below HB.out with h0 | ⟨b, o, rfl, hrow⟩
      · rw [h0] at hlt; simp at hlt
      have hbx := hrow k hlt
      have HS : Hid (sdB l[k] = true → ∀ j (hj : j < l.length), j < k + 1 → sdB l[j] = true) := fun hq j hj hjk => by
        rcases Nat.lt_or_ge j k with h | h
        · exact HN.out j hj h
        · have : j = k := by omega
          subst this; exact hq
      have HNO : Hid (sdB l[k] = false → saidB l = false) := fun h => saidB_no hlt h
      obtain ⟨tk, tn, ts, tao, tlen, tcap, e0, e1, e2, e3, hv⟩ := hbx.t.cells
      have d0 := hbx.c0
      have d1 := hbx.c1
      have HC : Hid (Calls Tryz.prog 51 #[.agg #[.int .i64 tk, .int .i64 tn, .string ts, .slice tao tlen tcap]] wr fun e w' => e = .returned (.bool (okT l[k].t)) ∧ Below wr.heap.size wr w') := specOk_any l[k].t 0 wr _ hv
      have HD : Hid (sdB l[k] = (decide (1 ≤ l[k].kind ∧ l[k].kind ≤ 3) && (pidB l[k].pid && okT l[k].t))) := rfl
      generalize okT l[k].t = q at HC HD
      generalize l[k].kind = kk at d0 HD
      generalize l[k].pid = pp at d1 HD
      generalize sdB l[k] = sb at HS HNO HD
      clear hrow hbx hv
      by_cases h1 : 1 ≤ kk ∧ kk ≤ 3
      · have i1 : Atom.inB kk 1 3 = true := decide_eq_true h1
        by_cases h2 : 1 ≤ pp ∧ pp ≤ 99999
        · have i2 : Atom.inB pp 1 99999 = true := decide_eq_true h2
          have HE : Hid (sb = q) := by
            show _ = _
            rw [HD.out, decide_eq_true h1, show pidB pp = true from decide_eq_true h2]; simp
          clear h1 h2 HD
          cases q
          · have HF : Hid (saidB l = false) := HNO.out HE.out
            go_wp2_with (first | (go_at_call 60; refine (Atom.in_any _ _ _ _).mono ?_; rintro e w' ⟨rfl, hw'⟩; obtain rfl := hw'.symm) | (go_at_call 51; refine HC.out.mono ?_; rintro e w3 ⟨rfl, hb3⟩; have HB3 : Hid (Below w.heap.size w w3) := HB.out.trans (hb3.mono HB.out.size); clear hb3))
            go_ret
            exact ⟨ret_bool HF.out.symm, HB3.out⟩
          · have HF : Hid (∀ j (hj : j < l.length), j < k + 1 → sdB l[j] = true) := HS.out HE.out
            go_wp2_with (first | (go_at_call 60; refine (Atom.in_any _ _ _ _).mono ?_; rintro e w' ⟨rfl, hw'⟩; obtain rfl := hw'.symm) | (go_at_call 51; refine HC.out.mono ?_; rintro e w3 ⟨rfl, hb3⟩; have HB3 : Hid (Below w.heap.size w w3) := HB.out.trans (hb3.mono HB.out.size); clear hb3))
            go_roundw
            case rel => exact ⟨k + 1, by omega, by go_num, HB3.out, HF.out⟩
            case measure => simp [intOf]; omega
        · have i2 : Atom.inB pp 1 99999 = false := decide_eq_false h2
          have HF : Hid (saidB l = false) := HNO.out (by rw [HD.out, show pidB pp = false from decide_eq_false h2]; simp)
          clear h1 h2 HD
          go_wp2_with (first | (go_at_call 60; refine (Atom.in_any _ _ _ _).mono ?_; rintro e w' ⟨rfl, hw'⟩; obtain rfl := hw'.symm))
          go_ret
          exact ⟨ret_bool HF.out.symm, HB.out⟩
      · have i1 : Atom.inB kk 1 3 = false := decide_eq_false h1
        have HF : Hid (saidB l = false) := HNO.out (by rw [HD.out, decide_eq_false h1]; simp)
        clear h1 HD
        go_wp2_with (first | (go_at_call 60; refine (Atom.in_any _ _ _ _).mono ?_; rintro e w' ⟨rfl, hw'⟩; obtain rfl := hw'.symm))
        go_ret
        exact ⟨ret_bool HF.out.symm, HB.out⟩
    · have HF : Hid (saidB l = decide ((l.length : Int) ≤ 500)) := by
        show _ = _
        rw [saidB_is fun j hj => HN.out j hj (by omega)]
        exact decide_eq_decide.2 (by omega)
      go_wp2_with fail
      go_ret
      exact ⟨ret_bool HF.out.symm, HB.out⟩

set_option maxHeartbeats 2000000 in
set_option maxRecDepth 100000 in
theorem l11Both_any (p : Pl) (h : Pw) (i : Nat) (hi : i < p.acts.length) (w : World) (hr : RowA w h.aa p.acts) (hl : p.acts.length ≤ maxLen) :
    Calls Tryz.prog 66 #[plV p h, .int .i64 i] w fun e w' => e = .returned (.bool (bothB p.acts p.acts[i])) ∧ Below w.heap.size w w' := by
  have KAT : Hid (∀ (pid : Int) (wc : World), Below w.heap.size w wc → Calls Tryz.prog 57 #[plV p h, .int .i64 pid] wc fun e w' => e = .returned (.int .i64 (atZ p.acts pid)) ∧ Below wc.heap.size wc w') := fun pid wc hb => l11At_any p h pid wc (hr.below hb) hl
  obtain ⟨code, acts, next, out⟩ := p
  obtain ⟨ca, cc, aa, ac, oa, oc⟩ := h
  unfold maxLen at hl
  dsimp only at hl hr hi KAT
  rcases hr with h0 | ⟨b, o, rfl, hrow⟩
  · rw [h0] at hi; simp at hi
  have HROW : Hid (∀ wc, Below w.heap.size w wc → ∀ j (hj : j < acts.length), ∃ hh, Bx5 wc b (o + j * 5) acts[j] hh ∧ AcR wc acts[j] hh) := fun wc hb j hj => by obtain ⟨hh, x, y⟩ := hrow j hj; exact ⟨hh, x.below hb, y.below hb⟩
  obtain ⟨hh, hbx, hac⟩ := HROW.out (w.alloc (.cells #[.slice ca code.length cc, .slice (some ⟨b, o, none⟩) acts.length ac, .int .i64 next, .slice oa out.length oc] 32)) ((Below.refl _ _).alloc (Nat.le_refl _) _) i hi
  have HBO : Hid (∀ k, k < acts[i].N → bothAt acts acts[i] k = false → bothB acts acts[i] = false) := fun k hk hf => bothB_no hk hf
  have HBY : Hid ((∀ k, k < acts[i].N → bothAt acts acts[i] k = true) → bothB acts acts[i] = true) := bothB_yes
  have HBN : Hid (∀ k, findA acts (acts[i].f k) = none → bothAt acts acts[i] k = true) := fun k hq => bothAt_none hq
  have HBS : Hid (∀ k m, findA acts (acts[i].f k) = some m → bothAt acts acts[i] k = hasB m.f m.N acts[i].pid) := fun k m hq => bothAt_some hq
  generalize acts[i] = a at hbx hac HBO HBY HBN HBS ⊢
  obtain ⟨pid, pc, regs, box, N, f⟩ := a
  obtain ⟨ra, rc, ba, bc, la, lc⟩ := hh
  have c0 := hbx.c0
  have c1 := hbx.c1
  have c2 := hbx.c2
  have c3 := hbx.c3
  have c4 := hbx.c4
  have hNm : N ≤ 9223372036854775807 := by have h1 := hac.l1; have h2 := hac.l2; unfold maxLen at h2; dsimp only at h1 h2; omega
  obtain ⟨w1, hw1⟩ : ∃ w1, w1 = (w.alloc (.cells #[.slice ca code.length cc, .slice (some ⟨b, o, none⟩) acts.length ac, .int .i64 next, .slice oa out.length oc] 32)).alloc (.cells #[.int .i64 pid, .int .i64 pc, .slice ra regs.length rc, .slice ba box.length bc, .slice la N lc] 61) := ⟨_, rfl⟩
  have hb1 : Below w.heap.size w w1 := by rw [hw1]; exact ((Below.refl _ _).alloc (Nat.le_refl _) _).alloc (by simp) _
  have HB1 : Hid (Below w.heap.size w w1) := hb1
  have e1 : (w.alloc (.cells #[.slice ca code.length cc, .slice (some ⟨b, o, none⟩) acts.length ac, .int .i64 next, .slice oa out.length oc] 32)).heap.size = w.heap.size + 1 := by simp
  have q0 : ∀ x, w1.cell? ⟨w.heap.size, x, none⟩ = (#[.slice ca code.length cc, .slice (some ⟨b, o, none⟩) acts.length ac, .int .i64 next, .slice oa out.length oc] : Array Value)[x]? := fun x => by rw [hw1, World.cell?_alloc_lt (h := by simp), World.cell?_alloc_new]
  have qa : ∀ x, w1.cell? ⟨w.heap.size + 1, x, none⟩ = (#[.int .i64 pid, .int .i64 pc, .slice ra regs.length rc, .slice ba box.length bc, .slice la N lc] : Array Value)[x]? := fun x => by rw [hw1, ← e1, World.cell?_alloc_new]
  have hz1 : w.heap.size + 1 < w1.heap.size := by rw [hw1]; simp
  have HLK : Hid (RdI w1 la N f) := hac.links.below (by rw [hw1]; exact (Below.refl _ _).alloc (Nat.le_refl _) _)
  have HQ : Hid (∀ wc, Below w1.heap.size w1 wc → (∀ x, wc.cell? ⟨w.heap.size, x, none⟩ = (#[.slice ca code.length cc, .slice (some ⟨b, o, none⟩) acts.length ac, .int .i64 next, .slice oa out.length oc] : Array Value)[x]?) ∧ ∀ x, wc.cell? ⟨w.heap.size + 1, x, none⟩ = (#[.int .i64 pid, .int .i64 pc, .slice ra regs.length rc, .slice ba box.length bc, .slice la N lc] : Array Value)[x]?) := fun wc hb =>
    ⟨fun x => by rw [hb.cell (p := ⟨w.heap.size, x, none⟩) (by show w.heap.size < _; omega)]; exact q0 x, fun x => by rw [hb.cell (p := ⟨w.heap.size + 1, x, none⟩) hz1]; exact qa x⟩
  clear hbx hac hrow hb1 q0 qa e1 hz1
  dsimp only at c0 c1 c2 c3 c4 HBO HBY HBN HBS
  go_enter Tryz.func66, Tryz.ntmps66
  go_wp2_with fail
  rw [← hw1]
  clear hw1 c0 c1 c2 c3 c4
  go_loopw [6] (fun iv wr => ∃ k : Nat, k ≤ N ∧ iv = .int .i64 k ∧ Below w1.heap.size w1 wr ∧ ∀ j, j < k → bothAt acts ⟨pid, pc, regs, box, N, f⟩ j = true) (fun iv _ => N - (intOf iv).toNat)
  case atStart => exact ⟨0, Nat.zero_le _, rfl, Below.refl _ _, fun j hj => absurd hj (Nat.not_lt_zero _)⟩
  case round =>
    obtain ⟨k, hk, rfl, hb, hn⟩ := hrel
    have HB : Hid (Below w1.heap.size w1 wr) := hb
    have HBW : Hid (Below w.heap.size w wr) := HB1.out.trans (hb.mono HB1.out.size)
    have HN : Hid (∀ j, j < k → bothAt acts ⟨pid, pc, regs, box, N, f⟩ j = true) := hn
    clear hn
    obtain ⟨q0, qa⟩ := HQ.out wr hb
    by_cases hlt : k < N
    · obtain ⟨lb, lo, rfl, hc⟩ := HLK.out.below hb (by omega)
      have ck := hc k hlt
      have HS : Hid (bothAt acts ⟨pid, pc, regs, box, N, f⟩ k = true → ∀ j, j < k + 1 → bothAt acts ⟨pid, pc, regs, box, N, f⟩ j = true) := fun hq j hj => by
        rcases Nat.lt_or_ge j k with h | h
        · exact HN.out j h
        · have : j = k := by omega
          subst this; exact hq
      have hcases := atZ_cases acts (f k)
      have HNK : Hid (findA acts (f k) = none → bothAt acts ⟨pid, pc, regs, box, N, f⟩ k = true) := HBN.out k
      have HSK : Hid (∀ m, findA acts (f k) = some m → bothAt acts ⟨pid, pc, regs, box, N, f⟩ k = hasB m.f m.N pid) := HBS.out k
      have HOK : Hid (bothAt acts ⟨pid, pc, regs, box, N, f⟩ k = false → bothB acts ⟨pid, pc, regs, box, N, f⟩ = false) := HBO.out k hlt
      have d0 := Inn.keep (q0 0)
      have d1 := Inn.keep (q0 1)
      have d2 := Inn.keep (q0 2)
      have d3 := Inn.keep (q0 3)
      have a4 := Inn.keep (qa 4)
      have dk := Inn.keep ck
      have KA : Hid (∀ y : Inn wr, Calls Tryz.prog 57 #[.agg #[.slice ca code.length cc, .slice (some ⟨b, o, none⟩) acts.length ac, .int .i64 next, .slice oa out.length oc], .int .i64 (f k)] y.val fun e w' => e = .returned (.int .i64 (atZ acts (f k))) ∧ Below y.val.heap.size y.val w') := fun y => KAT.out (f k) y.val (HBW.out.trans (y.bel.mono HBW.out.size))
      generalize f k = x at *
      generalize atZ acts x = z at *
      clear hc ck hb
      haveI := inn_ne wr
      go_wp2_with fail
      refine wp_region_inn ?_ ?_ ?_
      · kernel_rfl
      · kernel_rfl
      repeat (go_big_quiet_step (first | (go_at_call 57; exact calls_inn (KA.out _))))
      refine wpQuiet_nil ?_
      intro w7 h7
      have HB7 : Hid (Below w1.heap.size w1 w7 ∧ Below w.heap.size w w7) := by
        obtain ⟨y, rfl⟩ := h7
        exact ⟨HB.out.trans (y.bel.mono HB.out.size), HBW.out.trans (y.bel.mono HBW.out.size)⟩
      clear h7 d0 d1 d2 d3 a4 dk q0 qa
      rcases hcases with ⟨rfl, hfn⟩ | ⟨m, hm, rfl, hfs⟩
      · have HF : Hid (∀ j, j < k + 1 → bothAt acts ⟨pid, pc, regs, box, N, f⟩ j = true) := HS.out (HNK.out hfn)
        clear hfn
        haveI := inn_ne w7
        go_wp2_with fail
        refine wp_region_inn ?_ ?_ ?_
        · kernel_rfl
        · kernel_rfl
        repeat (go_big_quiet_step (fail))
        refine wpQuiet_nil ?_
        intro w8 h8
        have HB8 : Hid (Below w1.heap.size w1 w8) := by
          obtain ⟨y, rfl⟩ := h8
          exact HB7.out.1.trans (y.bel.mono HB7.out.1.size)
        clear h8
        go_wp2_with fail
        go_roundw
        case rel => exact ⟨k + 1, by omega, by go_num, HB8.out, HF.out⟩
        case measure => simp [intOf]; omega
      · have HE : Hid (bothAt acts ⟨pid, pc, regs, box, N, f⟩ k = hasB acts[m].f acts[m].N pid) := HSK.out _ hfs
        clear hfs
        obtain ⟨q0, qa⟩ := HQ.out w7 HB7.out.1
        obtain ⟨hh, hbx, hac⟩ := HROW.out w7 HB7.out.2 m hm
        have c4 := hbx.c4
        have hlk := hac.links
        have hml := Nat.le_trans hac.l1 hac.l2
        clear hbx
        generalize acts[m].f = g at *
        generalize acts[m].N = M at *
        have KH : Hid (∀ y : Inn w7, Calls Tryz.prog 99 #[.slice hh.la M hh.lc, .int .i64 pid] y.val fun e w' => e = .returned (.bool (hasB g M pid)) ∧ w' = y.val) := fun y => l11Has_any hh.la M hh.lc g pid y.val (hlk.below y.bel) hml
        generalize hasB g M pid = q at *
        have d1 := Inn.keep (q0 1)
        have a0 := Inn.keep (qa 0)
        have dk := Inn.keep c4
        have hm0 : (m : Int) ≥ 0 := by omega
        clear q0 qa c4 hlk hml hac
        haveI := inn_ne w7
        go_wp2_with fail
        refine wp_region_inn ?_ ?_ ?_
        · kernel_rfl
        · kernel_rfl
        repeat (go_big_quiet_step (first | (go_at_call 99; exact calls_inn_same (KH.out _))))
        refine wpQuiet_nil ?_
        intro w8 h8
        have HB8 : Hid (Below w1.heap.size w1 w8 ∧ Below w.heap.size w w8) := by
          obtain ⟨y, rfl⟩ := h8
          exact ⟨HB7.out.1.trans (y.bel.mono HB7.out.1.size), HB7.out.2.trans (y.bel.mono HB7.out.2.size)⟩
        clear h8 d1 a0 dk
        cases q
        · have HF : Hid (bothB acts ⟨pid, pc, regs, box, N, f⟩ = false) := HOK.out HE.out
          go_wp2_with fail
          go_ret
          exact ⟨ret_bool HF.out.symm, HB8.out.2⟩
        · have HF : Hid (∀ j, j < k + 1 → bothAt acts ⟨pid, pc, regs, box, N, f⟩ j = true) := HS.out HE.out
          go_wp2_with fail
          go_roundw
          case rel => exact ⟨k + 1, by omega, by go_num, HB8.out.1, HF.out⟩
          case measure => simp [intOf]; omega
    · have HF : Hid (bothB acts ⟨pid, pc, regs, box, N, f⟩ = true) := HBY.out fun j hj => HN.out j (by omega)
      clear hb q0
      go_wp2_with fail
      go_ret
      exact ⟨ret_bool HF.out.symm, HBW.out⟩
end Go.Proofs.YtjibnlpjpbileaaGreatDoor
namespace Go.Proofs.YtjibnlpjpbileaaGreatDoor
open Go.RowKit Atom
open Go.Proofs.YtjibnlpjpbileaaGreatDoor.Code
set_option linter.unusedVariables false

theorem keepP {w w' : World} (h : Below w.heap.size w w') {b : Nat} {c : Array Value} (hl : b < w.heap.size) (hc : ∀ x, w.cell? ⟨b, x, none⟩ = c[x]?) : ∀ x, w'.cell? ⟨b, x, none⟩ = c[x]? := fun x => by
  rw [h.cell (p := ⟨b, x, none⟩) hl]; exact hc x
/-- All that the loop asks of the k-th. -/
def AtP (p : Pl) (k : Nat) (hk : k < p.acts.length) : Prop := ActP p k hk ∧ bothB p.acts p.acts[k] = true
theorem plB_loop {p : Pl} (h1 : codeB p.code = true) (h2 : 1 ≤ p.next ∧ p.next ≤ 90000) (h3 : p.acts.length ≤ 20) (h4 : saidB p.out = true) (h : ∀ k (hk : k < p.acts.length), AtP p k hk) : plB p = true :=
  plB_yes ⟨h1, h2, ⟨h3, fun i hi => (h i hi).1, fun i hi => (h i hi).2⟩, h4⟩
theorem plB_stop {p : Pl} {k : Nat} (hk : k < p.acts.length) (h : ¬ AtP p k hk) : plB p = false :=
  plB_no fun q => h ⟨q.2.2.1.2.1 k hk, q.2.2.1.2.2 k hk⟩

set_option maxHeartbeats 4000000 in
set_option maxRecDepth 100000 in
theorem specPlainOk_any (p : Pl) (h : Pw) (w : World) (hr : PlR w p h) (hs : PlS p) :
    Calls Tryz.prog 29 #[plV p h] w fun e w' => e = .returned (.bool (plB p)) ∧ Below w.heap.size w w' := by
  have KBO : Hid (∀ (wc : World), Below w.heap.size w wc → ∀ k (hk : k < p.acts.length), Calls Tryz.prog 66 #[plV p h, .int .i64 k] wc fun e w' => e = .returned (.bool (bothB p.acts p.acts[k])) ∧ Below wc.heap.size wc w') := fun wc hb k hk => l11Both_any p h k hk wc (hr.acts.below hb) hr.a1
  have KAC : Hid (∀ (wc : World), Below w.heap.size w wc → ∀ k (hk : k < p.acts.length) (hh : Wh), AcR wc p.acts[k] hh → Calls Tryz.prog 65 #[.slice h.ca p.code.length h.cc, acV p.acts[k] hh] wc fun e w' => e = .returned (.bool (acB p.code p.acts[k])) ∧ Below wc.heap.size wc w') := fun wc hb k hk hh hac => specActorOk_any p.code h.ca h.cc p.acts[k] hh wc (hr.code.below hb) hr.sm hs.c hac (hs.ax _ (List.getElem_mem hk)).2.2
  have KCO : Hid (∀ (wc : World), Below w.heap.size w wc → Calls Tryz.prog 63 #[.slice h.ca p.code.length h.cc] wc fun e w' => e = .returned (.bool (codeB p.code)) ∧ Below wc.heap.size wc w') := fun wc hb => specCode_any p.code h.ca h.cc wc (hr.code.below hb) hr.sm hr.c1
  have KSA : Hid (∀ (wc : World), Below w.heap.size w wc → Calls Tryz.prog 64 #[.slice h.oa p.out.length h.oc] wc fun e w' => e = .returned (.bool (saidB p.out)) ∧ Below wc.heap.size wc w') := fun wc hb => l11Said_any p.out h.oa h.oc wc (hr.out.below hb) hr.o1
  have HSTOP : Hid (∀ k (hk : k < p.acts.length), ¬ AtP p k hk → plB p = false) := fun k hk hn => plB_stop hk hn
  have HLOOP : Hid (codeB p.code = true → (1 ≤ p.next ∧ p.next ≤ 90000) → p.acts.length ≤ 20 → saidB p.out = true → (∀ k (hk : k < p.acts.length), AtP p k hk) → plB p = true) := plB_loop
  have HNO : Hid (¬ PlP p → plB p = false) := plB_no
  have HROW : Hid (∀ wc, Below w.heap.size w wc → RowA wc h.aa p.acts) := fun wc hb => hr.acts.below hb
  have HAT : Hid (∀ k (hk : k < p.acts.length), AtP p k hk ↔ (acB p.code p.acts[k] = true ∧ p.acts[k].pid < p.next ∧ (∀ j (hj : j + 1 = k), (p.acts[j]'(by omega)).pid < p.acts[k].pid) ∧ bothB p.acts p.acts[k] = true)) := fun k hk => ⟨fun ⟨⟨a, b, c⟩, d⟩ => ⟨a, b, c, d⟩, fun ⟨a, b, c, d⟩ => ⟨⟨a, b, c⟩, d⟩⟩
  have hl := hr.a1
  unfold maxLen at hl
  obtain ⟨p0, hp0⟩ : ∃ p0, p0 = p := ⟨_, rfl⟩
  obtain ⟨h0, hh0⟩ : ∃ h0, h0 = h := ⟨_, rfl⟩
  have HP0 : Hid (p0 = p) := hp0
  obtain ⟨code, acts, next, out⟩ := p
  obtain ⟨ca, cc, aa, ac, oa, oc⟩ := h
  dsimp only at hl KBO KAC KCO KSA HLOOP HROW HAT HSTOP
  obtain ⟨w0, hw0⟩ : ∃ w0, w0 = w.alloc (.cells #[.slice ca code.length cc, .slice aa acts.length ac, .int .i64 next, .slice oa out.length oc] 32) := ⟨_, rfl⟩
  have hb0 : Below w.heap.size w w0 := by rw [hw0]; exact (Below.refl _ _).alloc (Nat.le_refl _) _
  have HB0 : Hid (Below w.heap.size w w0) := hb0
  have q0 : ∀ x, w0.cell? ⟨w.heap.size, x, none⟩ = (#[.slice ca code.length cc, .slice aa acts.length ac, .int .i64 next, .slice oa out.length oc] : Array Value)[x]? := fun x => by rw [hw0, World.cell?_alloc_new]
  have hz0 : w.heap.size < w0.heap.size := by rw [hw0, World.size_alloc]; omega
  have HQ : Hid (∀ wc, Below w0.heap.size w0 wc → ∀ x, wc.cell? ⟨w.heap.size, x, none⟩ = (#[.slice ca code.length cc, .slice aa acts.length ac, .int .i64 next, .slice oa out.length oc] : Array Value)[x]?) := fun wc hb => keepP hb hz0 q0
  have HW : Hid (∀ wc, Below w0.heap.size w0 wc → Below w.heap.size w wc) := fun wc hb => HB0.out.trans (hb.mono HB0.out.size)
  clear hr hs hb0 q0 hz0 hp0 hh0
  go_enter Tryz.func29, Tryz.ntmps29
  go_wp2_with fail
  rw [← hw0]
  clear hw0
  refine (KCO.out w0 HB0.out).mono ?_
  rintro e w1 ⟨he, hb1⟩
  have HB1 : Hid (Below w0.heap.size w0 w1) := hb1
  have q1 := HQ.out w1 hb1
  clear hb1
  cases hc : codeB code
  · rw [hc] at he; subst he
    have HF : Hid (plB ⟨code, acts, next, out⟩ = false) := HNO.out fun q => by have := q.1; dsimp only at this; rw [hc] at this; cases this
    clear hc
    go_wp2_with fail
    go_ret
    exact ⟨ret_bool HF.out.symm, HW.out _ HB1.out⟩
  rw [hc] at he; subst he
  have HC1 : Hid (codeB code = true) := hc
  clear hc
  by_cases h2 : 1 ≤ next ∧ next ≤ 90000
  rotate_left
  · have i2 : Atom.inB next 1 90000 = false := decide_eq_false h2
    have HF : Hid (plB ⟨code, acts, next, out⟩ = false) := HNO.out fun q => h2 q.2.1
    clear h2
    go_wp2_with (first | (go_at_call 60; refine (Atom.in_any _ _ _ _).mono ?_; rintro e w' ⟨rfl, hw'⟩; obtain rfl := hw'.symm))
    go_ret
    exact ⟨ret_bool HF.out.symm, HW.out _ HB1.out⟩
  have i2 : Atom.inB next 1 90000 = true := decide_eq_true h2
  have H2 : Hid (1 ≤ next ∧ next ≤ 90000) := h2
  clear h2
  by_cases h3 : acts.length ≤ 20
  rotate_left
  · have i3 : (20 : Int) < acts.length := by omega
    have HF : Hid (plB ⟨code, acts, next, out⟩ = false) := HNO.out fun q => h3 q.2.2.1.1
    clear h3
    go_wp2_with (first | (go_at_call 60; refine (Atom.in_any _ _ _ _).mono ?_; rintro e w' ⟨rfl, hw'⟩; obtain rfl := hw'.symm))
    go_ret
    exact ⟨ret_bool HF.out.symm, HW.out _ HB1.out⟩
  have i3 : ¬ (20 : Int) < acts.length := by omega
  have H3 : Hid (acts.length ≤ 20) := h3
  go_wp2_with (first | (go_at_call 60; refine (Atom.in_any _ _ _ _).mono ?_; rintro e w' ⟨rfl, hw'⟩; obtain rfl := hw'.symm) | (go_at_call 64; fail))
  refine (KSA.out w1 (HW.out _ HB1.out)).mono ?_
  rintro e w2 ⟨he, hb2⟩
  have HB2 : Hid (Below w0.heap.size w0 w2) := HB1.out.trans (hb2.mono HB1.out.size)
  clear hb2 q1
  cases h4 : saidB out
  · rw [h4] at he; subst he
    have HF : Hid (plB ⟨code, acts, next, out⟩ = false) := HNO.out fun q => by have := q.2.2.2; dsimp only at this; rw [h4] at this; cases this
    clear h4
    go_wp2_with fail
    go_ret
    exact ⟨ret_bool HF.out.symm, HW.out _ HB2.out⟩
  rw [h4] at he; subst he
  have HFIN : Hid ((∀ k (hk : k < acts.length), AtP ⟨code, acts, next, out⟩ k hk) → plB ⟨code, acts, next, out⟩ = true) := HLOOP.out HC1.out H2.out H3.out h4
  clear h4 i2 i3
  go_wp2_with fail
  go_loopw [3] (fun iv wr => ∃ k : Nat, k ≤ acts.length ∧ iv = .int .i64 k ∧ Below w0.heap.size w0 wr ∧ ∀ j (hj : j < acts.length), j < k → AtP ⟨code, acts, next, out⟩ j hj) (fun iv _ => acts.length - (intOf iv).toNat)
  case atStart => exact ⟨0, Nat.zero_le _, rfl, HB2.out, fun j _ hj => absurd hj (Nat.not_lt_zero _)⟩
  case round =>
    obtain ⟨k, hk, rfl, hb, hn⟩ := hrel
    have HB : Hid (Below w0.heap.size w0 wr) := hb
    have HN : Hid (∀ j (hj : j < acts.length), j < k → AtP ⟨code, acts, next, out⟩ j hj) := hn
    have q0 := HQ.out wr hb
    clear hn hb
    by_cases hlt : k < acts.length
    · rcases HROW.out wr (HW.out _ HB.out) with h0' | ⟨b, o, rfl, hrow⟩
      · rw [h0'] at hlt; simp at hlt
      obtain ⟨hh, hbx, hac⟩ := hrow k hlt
      have HS : Hid (AtP ⟨code, acts, next, out⟩ k hlt → ∀ j (hj : j < acts.length), j < k + 1 → AtP ⟨code, acts, next, out⟩ j hj) := fun hq j hj hjk => by
        rcases Nat.lt_or_ge j k with h | h
        · exact HN.out j hj h
        · have : j = k := by omega
          subst this; exact hq
      have HX : Hid (¬ AtP ⟨code, acts, next, out⟩ k hlt → plB ⟨code, acts, next, out⟩ = false) := HSTOP.out k hlt
      have HATK := HAT.out k hlt
      have HPREV : Hid (∀ j (hj : j + 1 = k), ∃ hb', Bx5 wr b (o + j * 5) (acts[j]'(by omega)) hb') := fun j hj => by obtain ⟨x, y, _⟩ := hrow j (by omega); exact ⟨x, y⟩
      obtain ⟨wa, hwa⟩ : ∃ wa, wa = wr.alloc (.cells #[.int .i64 acts[k].pid, .int .i64 acts[k].pc, .slice hh.ra acts[k].regs.length hh.rc, .slice hh.ba acts[k].box.length hh.bc, .slice hh.la acts[k].N hh.lc] 61) := ⟨_, rfl⟩
      have hba : Below wr.heap.size wr wa := by rw [hwa]; exact (Below.refl _ _).alloc (Nat.le_refl _) _
      have HBA : Hid (Below wr.heap.size wr wa) := hba
      have HBA0 : Hid (Below w0.heap.size w0 wa) := HB.out.trans (hba.mono HB.out.size)
      have KA : Hid (∀ y : Inn wa, Calls Tryz.prog 65 #[.slice ca code.length cc, .agg #[.int .i64 acts[k].pid, .int .i64 acts[k].pc, .slice hh.ra acts[k].regs.length hh.rc, .slice hh.ba acts[k].box.length hh.bc, .slice hh.la acts[k].N hh.lc]] y.val fun e w' => e = .returned (.bool (acB code acts[k])) ∧ Below y.val.heap.size y.val w') := fun y => KAC.out y.val (HW.out _ (HBA0.out.trans (y.bel.mono HBA0.out.size))) k hlt hh ((hac.below hba).below y.bel)
      have KB : Hid (∀ y : Inn wa, Calls Tryz.prog 66 #[.agg #[.slice ca code.length cc, .slice (some ⟨b, o, none⟩) acts.length ac, .int .i64 next, .slice oa out.length oc], .int .i64 k] y.val fun e w' => e = .returned (.bool (bothB acts acts[k])) ∧ Below y.val.heap.size y.val w') := fun y => KBO.out y.val (HW.out _ (HBA0.out.trans (y.bel.mono HBA0.out.size))) k hlt
      have qa : ∀ x, wa.cell? ⟨wr.heap.size, x, none⟩ = (#[.int .i64 acts[k].pid, .int .i64 acts[k].pc, .slice hh.ra acts[k].regs.length hh.rc, .slice hh.ba acts[k].box.length hh.bc, .slice hh.la acts[k].N hh.lc] : Array Value)[x]? := fun x => by rw [hwa, World.cell?_alloc_new]
      have c0 := hbx.c0
      have c1 := hbx.c1
      have c2 := hbx.c2
      have c3 := hbx.c3
      have c4 := hbx.c4
      have d0 : ∀ x : Inn wa, x.val.cell? ⟨w.heap.size, 0, none⟩ = some (.slice ca code.length cc) := Inn.keep (keepA hba (q0 0))
      have d1 : ∀ x : Inn wa, x.val.cell? ⟨w.heap.size, 1, none⟩ = some (.slice (some ⟨b, o, none⟩) acts.length ac) := Inn.keep (keepA hba (q0 1))
      have d2 : ∀ x : Inn wa, x.val.cell? ⟨w.heap.size, 2, none⟩ = some (.int .i64 next) := Inn.keep (keepA hba (q0 2))
      have d3 : ∀ x : Inn wa, x.val.cell? ⟨w.heap.size, 3, none⟩ = some (.slice oa out.length oc) := Inn.keep (keepA hba (q0 3))
      have a0 : ∀ x : Inn wa, x.val.cell? ⟨wr.heap.size, 0, none⟩ = some (.int .i64 acts[k].pid) := Inn.keep (qa 0)
      have a1 : ∀ x : Inn wa, x.val.cell? ⟨wr.heap.size, 1, none⟩ = some (.int .i64 acts[k].pc) := Inn.keep (qa 1)
      have a2 : ∀ x : Inn wa, x.val.cell? ⟨wr.heap.size, 2, none⟩ = some (.slice hh.ra acts[k].regs.length hh.rc) := Inn.keep (qa 2)
      have a3 : ∀ x : Inn wa, x.val.cell? ⟨wr.heap.size, 3, none⟩ = some (.slice hh.ba acts[k].box.length hh.bc) := Inn.keep (qa 3)
      have a4 : ∀ x : Inn wa, x.val.cell? ⟨wr.heap.size, 4, none⟩ = some (.slice hh.la acts[k].N hh.lc) := Inn.keep (qa 4)
      have HPC : Hid (∀ j (hj : j + 1 = k), ∀ y : Inn wa, y.val.cell? ⟨b, o + j * 5, none⟩ = some (.int .i64 (acts[j]'(by omega)).pid)) := fun j hj y => by obtain ⟨_, x⟩ := HPREV.out j hj; exact Inn.keep (keepA hba x.c0) y
      clear hbx hac hrow qa hba HPREV
      generalize acB code acts[k] = qA at *
      generalize bothB acts acts[k] = qB at *
      generalize acts[k].pid = pid at *
      generalize acts[k].pc = pc at *
      generalize acts[k].regs.length = nR at *
      generalize acts[k].box.length = nB at *
      generalize acts[k].N = nL at *
      haveI := inn_ne wa
      cases qA
      · have HF : Hid (plB ⟨code, acts, next, out⟩ = false) := HX.out fun q => by have := (HATK.1 q).1; cases this
        clear HATK
        go_wp2_with fail
        rw [← hwa]
        clear hwa
        refine wp_region_inn ?_ ?_ ?_
        · kernel_rfl
        · kernel_rfl
        repeat (go_big_quiet_step (first | (go_at_call 65; exact calls_inn (KA.out _)) | (go_at_call 66; exact calls_inn (KB.out _))))
        refine wpQuiet_nil ?_
        intro w8 h8
        have HB8 : Hid (Below w0.heap.size w0 w8) := by
          obtain ⟨y, rfl⟩ := h8
          exact HBA0.out.trans (y.bel.mono HBA0.out.size)
        clear h8 d0 d1 d2 d3 a0 a1 a2 a3 a4 c0 c1 c2 c3 c4 q0
        go_wp2_with fail
        go_ret
        exact ⟨ret_bool HF.out.symm, HW.out _ HB8.out⟩
      · by_cases hp : pid < next
        rotate_left
        · have p1 : decide (pid ≥ next) = true := decide_eq_true (by omega)
          have p2 : decide (next ≤ pid) = true := decide_eq_true (by omega)
          have HF : Hid (plB ⟨code, acts, next, out⟩ = false) := HX.out fun q => hp (HATK.1 q).2.1
          clear HATK hp
          go_wp2_with fail
          rw [← hwa]
          clear hwa
          refine wp_region_inn ?_ ?_ ?_
          · kernel_rfl
          · kernel_rfl
          repeat (go_big_quiet_step (first | (go_at_call 65; exact calls_inn (KA.out _)) | (go_at_call 66; exact calls_inn (KB.out _))))
          refine wpQuiet_nil ?_
          intro w8 h8
          have HB8 : Hid (Below w0.heap.size w0 w8) := by
            obtain ⟨y, rfl⟩ := h8
            exact HBA0.out.trans (y.bel.mono HBA0.out.size)
          clear h8 d0 d1 d2 d3 a0 a1 a2 a3 a4 c0 c1 c2 c3 c4 q0
          go_wp2_with fail
          go_ret
          exact ⟨ret_bool HF.out.symm, HW.out _ HB8.out⟩
        have p1 : decide (pid ≥ next) = false := decide_eq_false (by omega)
        have p2 : decide (next ≤ pid) = false := decide_eq_false (by omega)
        rcases Nat.eq_zero_or_pos k with hk0 | hk0
        · have e0 : decide ((k : Int) > 0) = false := decide_eq_false (by omega)
          have e0' : decide ((0 : Int) < (k : Int)) = false := decide_eq_false (by omega)
          have e0'' : decide (0 < k) = false := decide_eq_false (by omega)
          have HK0 : Hid (k = 0) := hk0
          have HY : Hid (qB = true → AtP ⟨code, acts, next, out⟩ k hlt) := fun hq => HATK.2 ⟨rfl, hp, fun j hj => absurd hj (by omega), hq⟩
          have HZ : Hid (qB = false → ¬ AtP ⟨code, acts, next, out⟩ k hlt) := fun hq q => by have := (HATK.1 q).2.2.2; rw [hq] at this; cases this
          clear HATK hp hk0
          cases qB
          · have HF : Hid (plB ⟨code, acts, next, out⟩ = false) := HX.out (HZ.out (by trivial))
            go_wp2_with fail
            rw [← hwa]
            clear hwa
            refine wp_region_inn ?_ ?_ ?_
            · kernel_rfl
            · kernel_rfl
            repeat (go_big_quiet_step (first | (go_at_call 65; exact calls_inn (KA.out _)) | (go_at_call 66; exact calls_inn (KB.out _))))
            refine wpQuiet_nil ?_
            intro w8 h8
            have HB8 : Hid (Below w0.heap.size w0 w8) := by
              obtain ⟨y, rfl⟩ := h8
              exact HBA0.out.trans (y.bel.mono HBA0.out.size)
            clear h8 d0 d1 d2 d3 a0 a1 a2 a3 a4 c0 c1 c2 c3 c4 q0
            go_wp2_with fail
            go_ret
            exact ⟨ret_bool HF.out.symm, HW.out _ HB8.out⟩
          · have HF : Hid (∀ j (hj : j < acts.length), j < k + 1 → AtP ⟨code, acts, next, out⟩ j hj) := HS.out (HY.out (by trivial))
            go_wp2_with fail
            rw [← hwa]
            clear hwa
            refine wp_region_inn ?_ ?_ ?_
            · kernel_rfl
            · kernel_rfl
            repeat (go_big_quiet_step (first | (go_at_call 65; exact calls_inn (KA.out _)) | (go_at_call 66; exact calls_inn (KB.out _))))
            refine wpQuiet_nil ?_
            intro w8 h8
            have HB8 : Hid (Below w0.heap.size w0 w8) := by
              obtain ⟨y, rfl⟩ := h8
              exact HBA0.out.trans (y.bel.mono HBA0.out.size)
            clear h8 d0 d1 d2 d3 a0 a1 a2 a3 a4 c0 c1 c2 c3 c4 q0
            go_wp2_with fail
            go_roundw
            case rel => exact ⟨k + 1, by omega, by go_num, HB8.out, HF.out⟩
            case measure => simp [intOf]; omega
        · obtain ⟨m, rfl⟩ : ∃ m, k = m + 1 := ⟨k - 1, by omega⟩
          clear hk0
          have cm := HPC.out m rfl
          have e1 : IntKind.i64.wrap (((m + 1 : Nat) : Int) - 1) = (m : Int) := by rw [IntKind.wrap_i64]; omega
          have e2 : decide (((m + 1 : Nat) : Int) > 0) = true := decide_eq_true (by omega)
          have hPV : (∀ j (hj : j + 1 = m + 1), (acts[j]'(by omega)).pid < pid) ↔ (acts[m]'(by omega)).pid < pid := ⟨fun q => q m rfl, fun q j hj => by
              have : j = m := by omega
              subst this; exact q⟩
          rw [hPV] at HATK
          clear hPV
          generalize (acts[m]'(by omega)).pid = prev at *
          by_cases hv : prev < pid
          rotate_left
          · have p3 : decide (prev ≥ pid) = true := decide_eq_true (by omega)
            have p4 : decide (pid ≤ prev) = true := decide_eq_true (by omega)
            have HF : Hid (plB ⟨code, acts, next, out⟩ = false) := HX.out fun q => hv (HATK.1 q).2.2.1
            clear HATK hp hv
            go_wp2_with fail
            rw [← hwa]
            clear hwa
            refine wp_region_inn ?_ ?_ ?_
            · kernel_rfl
            · kernel_rfl
            repeat (go_big_quiet_step (first | (go_at_call 65; exact calls_inn (KA.out _)) | (go_at_call 66; exact calls_inn (KB.out _))))
            refine wpQuiet_nil ?_
            intro w8 h8
            have HB8 : Hid (Below w0.heap.size w0 w8) := by
              obtain ⟨y, rfl⟩ := h8
              exact HBA0.out.trans (y.bel.mono HBA0.out.size)
            clear h8 d0 d1 d2 d3 a0 a1 a2 a3 a4 c0 c1 c2 c3 c4 q0 cm
            go_wp2_with fail
            go_ret
            exact ⟨ret_bool HF.out.symm, HW.out _ HB8.out⟩
          have p3 : decide (prev ≥ pid) = false := decide_eq_false (by omega)
          have p4 : decide (pid ≤ prev) = false := decide_eq_false (by omega)
          have HY : Hid (qB = true → AtP ⟨code, acts, next, out⟩ (m + 1) hlt) := fun hq => HATK.2 ⟨rfl, hp, hv, hq⟩
          have HZ : Hid (qB = false → ¬ AtP ⟨code, acts, next, out⟩ (m + 1) hlt) := fun hq q => by have := (HATK.1 q).2.2.2; rw [hq] at this; cases this
          clear HATK hp hv
          cases qB
          · have HF : Hid (plB ⟨code, acts, next, out⟩ = false) := HX.out (HZ.out (by trivial))
            go_wp2_with fail
            rw [← hwa]
            clear hwa
            refine wp_region_inn ?_ ?_ ?_
            · kernel_rfl
            · kernel_rfl
            repeat (go_big_quiet_step (first | (go_at_call 65; exact calls_inn (KA.out _)) | (go_at_call 66; exact calls_inn (KB.out _))))
            refine wpQuiet_nil ?_
            intro w8 h8
            have HB8 : Hid (Below w0.heap.size w0 w8) := by
              obtain ⟨y, rfl⟩ := h8
              exact HBA0.out.trans (y.bel.mono HBA0.out.size)
            clear h8 d0 d1 d2 d3 a0 a1 a2 a3 a4 c0 c1 c2 c3 c4 q0 cm
            go_wp2_with fail
            go_ret
            exact ⟨ret_bool HF.out.symm, HW.out _ HB8.out⟩
          · have HF : Hid (∀ j (hj : j < acts.length), j < m + 1 + 1 → AtP ⟨code, acts, next, out⟩ j hj) := HS.out (HY.out (by trivial))
            go_wp2_with fail
            rw [← hwa]
            clear hwa
            refine wp_region_inn ?_ ?_ ?_
            · kernel_rfl
            · kernel_rfl
            repeat (go_big_quiet_step (first | (go_at_call 65; exact calls_inn (KA.out _)) | (go_at_call 66; exact calls_inn (KB.out _))))
            refine wpQuiet_nil ?_
            intro w8 h8
            have HB8 : Hid (Below w0.heap.size w0 w8) := by
              obtain ⟨y, rfl⟩ := h8
              exact HBA0.out.trans (y.bel.mono HBA0.out.size)
            clear h8 d0 d1 d2 d3 a0 a1 a2 a3 a4 c0 c1 c2 c3 c4 q0 cm
            go_wp2_with fail
            go_roundw
            case rel => exact ⟨m + 1 + 1, by omega, by go_num, HB8.out, HF.out⟩
            case measure => simp [intOf]; omega
    · have HF : Hid (plB ⟨code, acts, next, out⟩ = true) := HFIN.out fun j hj => HN.out j hj (by omega)
      go_wp2_with fail
      go_ret
      exact ⟨ret_bool HF.out.symm, HW.out _ HB.out⟩
end Go.Proofs.YtjibnlpjpbileaaGreatDoor
