/-
  What the laws mark, and find marked, of instructions, actors and of what was said.
  (Ahead of it, in this text: The specification's new system, walked. The specification's new system, walked. What is marked is found marked (marks up to nine millions). What the laws mark of numbers, instructions and actors, each in blocks of its own.)
-/
import Derived.Test.YtjibnlpjpbileaaGreatDoorU9
import Derived.Deep.CutRange
import Derived.Deep.RegionHeld3
import Derived.Deep.RegionWith
import Derived.Test.YtjibnlpjpbileaaGreatDoorPlA
namespace Go.Proofs.YtjibnlpjpbileaaGreatDoor
open Go.RowKit Atom
open Go.Proofs.YtjibnlpjpbileaaGreatDoor.Code
set_option linter.unusedVariables false

set_option maxHeartbeats 8000000 in
set_option maxRecDepth 100000 in
theorem specPlainNew_any (code : List I) (b o : Nat) (cap : Nat) (t : Tm) (v : Value) (w : World) (hne : 0 < code.length) (hr : ∀ j (hj : j < code.length), Bx6 w b (o + j * 6) code[j]) (hl : code.length ≤ 1048576) (hsm : SmI 1048576 code) (hv : RepV 0 w t v) (hst : StS t) (hps : PlS (nPl code t)) :
    Calls Tryz.prog 8 #[.slice (some ⟨b, o, none⟩) code.length cap, v] w fun e w' => ∃ h, e = .returned (.tuple #[plV (aPl code t) h, .bool (plB (nPl code t))]) ∧ PlK w.heap.size w' (aPl code t) h ∧ Below w.heap.size w w' := by
  obtain ⟨va, vb, vc, vd, ve, vf, rfl⟩ := hv.form
  obtain ⟨w0, hw0⟩ : ∃ w0, w0 = (w.alloc (.cells #[.int .i64 va, .int .i64 vb, .string vc, .slice vd ve vf] 38)).alloc (.cells #[.slice none 0 0, .slice none 0 0, .int .i64 0, .slice none 0 0] 32) := ⟨_, rfl⟩
  have hb0 : Below w.heap.size w w0 := by rw [hw0]; exact ((Below.refl _ _).alloc (Nat.le_refl _) _).alloc (by simp) _
  have hz0 : w0.heap.size = w.heap.size + 2 := by rw [hw0]; simp
  have qt : ∀ x, w0.cell? ⟨w.heap.size, x, none⟩ = (#[.int .i64 va, .int .i64 vb, .string vc, .slice vd ve vf] : Array Value)[x]? := fun x => by
    rw [hw0, ((Below.refl _ _).alloc (Nat.le_refl _) _).cell (p := ⟨w.heap.size, x, none⟩) (by simp), World.cell?_alloc_new]
  have qz : ZP w0 (w.heap.size + 1) := by rw [hw0]; exact ZP.new (by simp)
  have HV : Hid (∀ wc, Below w.heap.size w wc → RepV 0 wc t (.agg #[.int .i64 va, .int .i64 vb, .string vc, .slice vd ve vf])) := fun wc hb => (Keeps.below hb 0).repV hv
  have HNEW : Hid (∀ wc, Below w.heap.size w wc → Calls Tryz.prog 27 #[.int .i64 1, .int .i64 0, .agg #[.int .i64 va, .int .i64 vb, .string vc, .slice vd ve vf]] wc fun e w' => ∃ ra rc, e = .returned (.agg #[.int .i64 (nwI 1 0 t 1), .int .i64 (nwI 1 0 t 0), .slice ra (nwR 1 0 t).length rc, .slice none 0 0, .slice none 0 0]) ∧ RA w' wc.heap.size t ra rc ∧ Below wc.heap.size wc w') := fun wc hb => by
    refine (specNew_any9 1 0 t _ wc (HV.out wc hb) hst).mono ?_
    rintro e w' ⟨ra, rc, h1, h2, h3, h4, h5⟩
    exact ⟨ra, rc, h1, ⟨h2, h3, h4⟩, h5⟩
  have HSY : Hid (∀ wc, Below w.heap.size w wc → Calls Tryz.prog 28 #[.slice none 0 0, .int .i64 1, .int .i64 1, .agg #[.int .i64 va, .int .i64 vb, .string vc, .slice vd ve vf]] wc fun e w' => ∃ g cap, e = .returned (.slice (some ⟨g, 0, none⟩) 1 cap) ∧ (∀ wz : World, (∀ b, wc.heap.size ≤ b → b < w'.heap.size → wz.heap[b]? = w'.heap[b]?) → RowS wz (some ⟨g, 0, none⟩) [⟨1, 1, t⟩]) ∧ Below wc.heap.size wc w') := fun wc hb => l11Says0_any 1 1 t _ wc (HV.out wc hb) hst
  have HB0 : Hid (Below w.heap.size w w0 ∧ w0.heap.size = w.heap.size + 2 ∧ ZP w0 (w.heap.size + 1)) := ⟨hb0, hz0, qz⟩
  have HTB : Hid (∀ wc, Below w0.heap.size w0 wc → wc.cell? ⟨w.heap.size, 0, none⟩ = some (.int .i64 va) ∧ wc.cell? ⟨w.heap.size, 1, none⟩ = some (.int .i64 vb) ∧ wc.cell? ⟨w.heap.size, 2, none⟩ = some (.string vc) ∧ wc.cell? ⟨w.heap.size, 3, none⟩ = some (.slice vd ve vf)) := fun wc hb => by
    have hq : ∀ x, wc.cell? ⟨w.heap.size, x, none⟩ = (#[.int .i64 va, .int .i64 vb, .string vc, .slice vd ve vf] : Array Value)[x]? := fun x => by rw [hb.cell (p := ⟨w.heap.size, x, none⟩) (by show w.heap.size < _; omega)]; exact qt x
    exact ⟨hq 0, hq 1, hq 2, hq 3⟩
  have HPS : Hid (PlS (nPl code t)) := hps
  obtain ⟨i0, hi, hzz0, hzz1, hzz2⟩ := infoParts9 infoIns
  have HC : Hid (0 < code.length ∧ code.length ≤ maxLen ∧ code.length * 56 ≤ 140737488355328) := ⟨hne, by unfold maxLen; omega, by omega⟩
  have HNW : Hid (∀ X, Below w.heap.size w X → ∀ j u, (code.flatMap insL)[j]? = some u → X.cell? ((⟨b, o, none⟩ : Addr).add j) = some u) := fun X hX j u hu => by
    have h1 := insC_cells code o (fun j hj => (hr j hj).below hX) j u hu
    by_cases hj : j = 0
    · subst hj; simpa [Addr.add] using h1
    · simpa [Addr.add, hj] using h1
  have HSM : Hid (SmI 1048576 code) := hsm
  clear hb0 hz0 qt qz hv hst hps hr hsm hne hl
  go_enter Tryz.func8, Tryz.ntmps8
  go_wp2_with fail
  rw [← hw0]
  clear hw0
  obtain ⟨t0, t1, t2, t3⟩ := HTB.out w0 (Below.refl _ _)
  go_cut [6] from 7 to 13 (fun v6 wx => ∃ (B : Nat) (ca : Option Addr) (cc : Nat) (aa : Option Addr) (ac : Nat), v6 = .pointer (some ⟨B, 0, none⟩) ∧ Nw w0 wx code t B ca cc aa ac)
  case first =>
    have S0 : w0.drew.cell? ⟨w.heap.size, 0, none⟩ = some (.int .i64 va) ∧ w0.drew.cell? ⟨w.heap.size, 1, none⟩ = some (.int .i64 vb) ∧ w0.drew.cell? ⟨w.heap.size, 2, none⟩ = some (.string vc) ∧ w0.drew.cell? ⟨w.heap.size, 3, none⟩ = some (.slice vd ve vf) := HTB.out _ (Below.refl _ _).drew
    go_region_held3 (fun w' => w'.cell? ⟨w.heap.size, 0, none⟩ = some (.int .i64 va) ∧ w'.cell? ⟨w.heap.size, 1, none⟩ = some (.int .i64 vb) ∧ w'.cell? ⟨w.heap.size, 2, none⟩ = some (.string vc) ∧ w'.cell? ⟨w.heap.size, 3, none⟩ = some (.slice vd ve vf)) (first | (refine HTB.out _ ?_; (repeat' first | with_reducible exact H5.out | with_reducible exact H6.out | with_reducible exact Below.refl _ _ | with_reducible refine belA ?_ _ | with_reducible refine belD ?_ | with_reducible refine belS ?_ ?_ | with_reducible exact H6.out.size | with_reducible exact H5.out.size | omega); done) | go_keep) (first
      | (go_at_call 27; refine (HNEW.out _ (belN HB0.out.1 ?_)).mono ?_; (focus (repeat' first | with_reducible exact H5.out | with_reducible exact H6.out | with_reducible exact Below.refl _ _ | with_reducible refine belA ?_ _ | with_reducible refine belD ?_ | with_reducible refine belS ?_ ?_ | with_reducible exact H6.out.size | with_reducible exact H5.out.size | omega)); rintro e w5 ⟨ra, rc, rfl, hra, hb5⟩; refine (have H5 : Hid (Below w0.heap.size w0 w5) := belN ?_ hb5; ?_); (focus (repeat' first | with_reducible exact H5.out | with_reducible exact H6.out | with_reducible exact Below.refl _ _ | with_reducible refine belA ?_ _ | with_reducible refine belD ?_ | with_reducible refine belS ?_ ?_ | with_reducible exact H6.out.size | with_reducible exact H5.out.size | omega)); have HRA : Hid (RA w5 _ t ra rc) := hra; obtain ⟨z0, z1, z2, z3⟩ := HTB.out w5 H5.out; (try (first | (refine (have zz5 : ZP w5 (w0.heap.size) := ZP.below ?_ hb5; ?_); (focus (first | exact zz6 | ((try with_reducible refine ZP.drew ?_); first | (refine ZP.new ?_; (simp; done)) | (refine ZP.alloc (ZP.new ?_) _; (simp; done))))); have HZ5 : Hid (ZP w5 (w0.heap.size)) := zz5; obtain ⟨_, _, _, _, _⟩ := zz5.cellsA; clear zz5) | (refine (have zz5 : ZP w5 (w0.heap.size + 1) := ZP.below ?_ hb5; ?_); (focus (first | exact zz6 | ((try with_reducible refine ZP.drew ?_); first | (refine ZP.new ?_; (simp; done)) | (refine ZP.alloc (ZP.new ?_) _; (simp; done))))); have HZ5 : Hid (ZP w5 (w0.heap.size + 1)) := zz5; obtain ⟨_, _, _, _, _⟩ := zz5.cellsA; clear zz5) | (refine (have zz5 : ZP w5 (w6.heap.size) := ZP.below ?_ hb5; ?_); (focus (first | exact zz6 | ((try with_reducible refine ZP.drew ?_); first | (refine ZP.new ?_; (simp; done)) | (refine ZP.alloc (ZP.new ?_) _; (simp; done))))); have HZ5 : Hid (ZP w5 (w6.heap.size)) := zz5; obtain ⟨_, _, _, _, _⟩ := zz5.cellsA; clear zz5))); refine (have H65 : Hid (Below w6.heap.size w6 w5) := belN ?_ hb5; ?_); (focus (repeat' first | with_reducible exact H5.out | with_reducible exact H6.out | with_reducible exact Below.refl _ _ | with_reducible refine belA ?_ _ | with_reducible refine belD ?_ | with_reducible refine belS ?_ ?_ | with_reducible exact H6.out.size | with_reducible exact H5.out.size | omega)); clear hb5 hra)
      | (refine step_append_lies _ rfl (.tmp 7) (.tmp 8) 28 rfl w0.heap.size 65 i0 (.agg #[.int .i64 0, .int .i64 0, .int .i64 0, .int .i64 0, .int .i64 0, .string ⟨#[]⟩]) 6 56 undInsS hi hzz0 hzz1 hzz2 rfl (by decide) (.slice (some ⟨w0.heap.size, 0, none⟩) 0 0) 0 [] ?_ ?_ ⟨b, o, none⟩ code.length cap (code.flatMap insL) (by simp [Act.eval]) (by rw [insC_len]) (HNW.out _ (belN HB0.out.1 ?_)) (insC_one code) HC.out.1 (by rw [Nat.zero_add]; exact HC.out.2.1) (by rw [Nat.zero_add]; exact HC.out.2.2) (Below.size (B := w0.heap.size) (w := w0) ?_) _ rfl ?_; (focus (simp [Act.eval]; done)); (focus (repeat' first | (refine ownE ?_ ?_; (focus (simp; done)); (focus (refine Below.size (B := w0.heap.size) (w := w0) ?_; (repeat' first | with_reducible exact H5.out | with_reducible exact H6.out | with_reducible exact Below.refl _ _ | with_reducible refine belA ?_ _ | with_reducible refine belD ?_ | with_reducible refine belS ?_ ?_ | with_reducible exact H6.out.size | with_reducible exact H5.out.size | omega)))) | with_reducible refine ownD ?_ | with_reducible refine World.ownsRow.alloc ?_ _)); (focus (repeat' first | with_reducible exact H5.out | with_reducible exact H6.out | with_reducible exact Below.refl _ _ | with_reducible refine belA ?_ _ | with_reducible refine belD ?_ | with_reducible refine belS ?_ ?_ | with_reducible exact H6.out.size | with_reducible exact H5.out.size | omega)); (focus (repeat' first | with_reducible exact H5.out | with_reducible exact H6.out | with_reducible exact Below.refl _ _ | with_reducible refine belA ?_ _ | with_reducible refine belD ?_ | with_reducible refine belS ?_ ?_ | with_reducible exact H6.out.size | with_reducible exact H5.out.size | omega)); intro g6 cap6 w6 hown6 hgrow6 hat6 hlt6; refine (have H6 : Hid (Below w0.heap.size w0 w6) := belG ?_ ?_ hgrow6; ?_); (focus (repeat' first | with_reducible exact H5.out | with_reducible exact H6.out | with_reducible exact Below.refl _ _ | with_reducible refine belA ?_ _ | with_reducible refine belD ?_ | with_reducible refine belS ?_ ?_ | with_reducible exact H6.out.size | with_reducible exact H5.out.size | omega)); (focus omega); have HCR : Hid (CR w6 g6 code) := CR.of HC.out.1 hown6; have HG6 : Hid (g6 = w0.heap.size ∨ g6 = _) := own_or hat6; obtain ⟨y0, y1, y2, y3⟩ := HTB.out w6 H6.out; (try (refine (have zz6 : ZP w6 (w0.heap.size + 1) := ZP.grown ?_ ?_ hgrow6; ?_); (focus ((try with_reducible refine ZP.drew ?_); first | (refine ZP.alloc (ZP.new ?_) _; (simp; done)) | (refine ZP.new ?_; (simp; done)))); (focus omega))); have HL6 : Hid (g6 < w6.heap.size) := hlt6; clear hown6 hgrow6 hat6 hlt6)
      | (refine step_append_lies _ rfl (.tmp 7) (.tmp 8) 28 rfl w0.heap.size 65 i0 (.agg #[.int .i64 0, .int .i64 0, .int .i64 0, .int .i64 0, .int .i64 0, .string ⟨#[]⟩]) 6 56 undInsS hi hzz0 hzz1 hzz2 rfl (by decide) (.slice (some ⟨w0.heap.size + 1, 0, none⟩) 0 0) 0 [] ?_ ?_ ⟨b, o, none⟩ code.length cap (code.flatMap insL) (by simp [Act.eval]) (by rw [insC_len]) (HNW.out _ (belN HB0.out.1 ?_)) (insC_one code) HC.out.1 (by rw [Nat.zero_add]; exact HC.out.2.1) (by rw [Nat.zero_add]; exact HC.out.2.2) (Below.size (B := w0.heap.size) (w := w0) ?_) _ rfl ?_; (focus (simp [Act.eval]; done)); (focus (repeat' first | (refine ownE ?_ ?_; (focus (simp; done)); (focus (refine Below.size (B := w0.heap.size) (w := w0) ?_; (repeat' first | with_reducible exact H5.out | with_reducible exact H6.out | with_reducible exact Below.refl _ _ | with_reducible refine belA ?_ _ | with_reducible refine belD ?_ | with_reducible refine belS ?_ ?_ | with_reducible exact H6.out.size | with_reducible exact H5.out.size | omega)))) | with_reducible refine ownD ?_ | with_reducible refine World.ownsRow.alloc ?_ _)); (focus (repeat' first | with_reducible exact H5.out | with_reducible exact H6.out | with_reducible exact Below.refl _ _ | with_reducible refine belA ?_ _ | with_reducible refine belD ?_ | with_reducible refine belS ?_ ?_ | with_reducible exact H6.out.size | with_reducible exact H5.out.size | omega)); (focus (repeat' first | with_reducible exact H5.out | with_reducible exact H6.out | with_reducible exact Below.refl _ _ | with_reducible refine belA ?_ _ | with_reducible refine belD ?_ | with_reducible refine belS ?_ ?_ | with_reducible exact H6.out.size | with_reducible exact H5.out.size | omega)); intro g6 cap6 w6 hown6 hgrow6 hat6 hlt6; refine (have H6 : Hid (Below w0.heap.size w0 w6) := belG ?_ ?_ hgrow6; ?_); (focus (repeat' first | with_reducible exact H5.out | with_reducible exact H6.out | with_reducible exact Below.refl _ _ | with_reducible refine belA ?_ _ | with_reducible refine belD ?_ | with_reducible refine belS ?_ ?_ | with_reducible exact H6.out.size | with_reducible exact H5.out.size | omega)); (focus omega); have HCR : Hid (CR w6 g6 code) := CR.of HC.out.1 hown6; have HG6 : Hid (g6 = w0.heap.size + 1 ∨ g6 = _) := own_or hat6; obtain ⟨y0, y1, y2, y3⟩ := HTB.out w6 H6.out; (try (refine (have zz6 : ZP w6 (w0.heap.size) := ZP.grown ?_ ?_ hgrow6; ?_); (focus ((try with_reducible refine ZP.drew ?_); first | (refine ZP.alloc (ZP.new ?_) _; (simp; done)) | (refine ZP.new ?_; (simp; done)))); (focus omega))); have HL6 : Hid (g6 < w6.heap.size) := hlt6; clear hown6 hgrow6 hat6 hlt6)
      )
    all_goals
      go_wp2_with fail
      go_meet
      case rel =>
        first
          | (with_reducible refine ⟨_, _, _, _, _, rfl, fin5 H5.out HCR.out H65.out HRA.out ?_ ?_⟩; (focus (have hg := HG6.out; (try simp only [World.size_alloc, World.size_drew] at hg); omega)); (focus (have hh := H6.out.size; (try simp only [World.size_alloc]); omega)))
          | (with_reducible refine ⟨_, _, _, _, _, rfl, fin4 H5.out HCR.out H65.out HRA.out ?_ ?_⟩; (focus (have hg := HG6.out; (try simp only [World.size_alloc, World.size_drew] at hg); omega)); (focus (have hh := H6.out.size; (try simp only [World.size_alloc]); omega)))
          | (with_reducible refine ⟨_, _, _, _, _, rfl, finS H5.out ?_ HZ5.out HCR.out ?_ H65.out HRA.out ?_ ?_ ?_⟩; (focus (first | omega | exact H6.out.size)); (focus (have hg := HG6.out; have hl := HL6.out; (try simp only [World.size_alloc, World.size_drew] at hg); omega)); (focus (first | exact zz6.lt | (simp; done))); (focus (have hg := HG6.out; (try simp only [World.size_alloc, World.size_drew] at hg); omega)); (focus (have hh := H6.out.size; (try simp only [World.size_alloc]); omega)))
  case rest =>
    obtain ⟨B, ca, cc, aa, ac, rfl, hn⟩ := hcut
    obtain ⟨w1, hw1⟩ : ∃ w1, w1 = wc := ⟨_, rfl⟩
    obtain rfl := hw1
    have HN : Hid (Nw w0 w1 code t B ca cc aa ac) := hn
    have hbw1 : Below w.heap.size w w1 := belN HB0.out.1 hn.bel
    have HW1 : Hid (Below w.heap.size w w1) := hbw1
    clear t0 t1 t2 t3
    obtain ⟨t0, t1, t2, t3⟩ := HTB.out w1 hn.bel
    have c3 := hn.c3
    clear hn hbw1
    go_wp2_with (go_at_call 28; fail)
    refine (HSY.out w1 HW1.out).mono ?_
    rintro e w2 ⟨g, gcap, rfl, hs2, hb2⟩
    have HS2 : Hid (∀ wz : World, (∀ b, w1.heap.size ≤ b → b < w2.heap.size → wz.heap[b]? = w2.heap[b]?) → RowS wz (some ⟨g, 0, none⟩) [⟨1, 1, t⟩]) := hs2
    have HB2 : Hid (Below w1.heap.size w1 w2) := hb2
    clear c3 t0 t1 t2 t3
    have hBl : B < w1.heap.size := World.block_lt_of_cell? w1 _ HN.out.c0
    have HBL : Hid (B < w1.heap.size) := hBl
    have c0 : w2.cell? ⟨B, 0, none⟩ = some (.slice ca code.length cc) := keepA hb2 HN.out.c0
    have c1 : w2.cell? ⟨B, 1, none⟩ = some (.slice aa 1 ac) := keepA hb2 HN.out.c1
    have c2 : w2.cell? ⟨B, 2, none⟩ = some (.int .i64 2) := keepA hb2 HN.out.c2
    have c3 : w2.cell? ⟨B, 3, none⟩ = some (.slice none 0 0) := keepA hb2 HN.out.c3
    have fz : ∀ x, w2.frozen? ⟨B, x, none⟩ = false := fun x => by rw [hb2.frozen (p := ⟨B, x, none⟩) hBl]; exact HN.out.fz x
    obtain ⟨w3, hw3⟩ : ∃ w3, w3 = w2.setCell ⟨B, 3, none⟩ (.slice (some ⟨g, 0, none⟩) 1 gcap) := ⟨_, rfl⟩
    have HPG : Hid (∀ wz : World, (∀ b, w0.heap.size ≤ b → b < w2.heap.size → b ≠ B → wz.heap[b]? = w2.heap[b]?) → PlR wz (nPl code t) ⟨ca, cc, aa, ac, some ⟨g, 0, none⟩, gcap⟩) := fun wz hwz => by
      have hz12 := hb2.size
      have hz01 := HN.out.bel.size
      have kx : Kx w0 B w1 wz := fun b h1 h2 h3 => by rw [hwz b h1 (by omega) h3]; exact hb2.block b h2
      exact ⟨HN.out.code wz kx, HN.out.act wz kx, HS2.out wz (fun b h1 h2 => hwz b (by omega) h2 (by omega)), smI_mono HSM.out (by unfold maxLen; omega), HC.out.2.1, by show 1 ≤ maxLen; unfold maxLen; omega, by show 1 ≤ maxLen; unfold maxLen; omega⟩
    have k23 : ∀ b, b ≠ B → w3.heap[b]? = w2.heap[b]? := fun b hb => by rw [hw3]; exact Below.heap_setCell _ ⟨B, 3, none⟩ _ b (by show b ≠ B; exact hb)
    have HPR : Hid (PlR w3 (nPl code t) ⟨ca, cc, aa, ac, some ⟨g, 0, none⟩, gcap⟩) := HPG.out w3 (fun b _ _ h => k23 b h)
    have HK23 : Hid (w3.heap.size = w2.heap.size ∧ ∀ b, b ≠ B → w3.heap[b]? = w2.heap[b]?) := ⟨by rw [hw3]; exact World.size_setCell _ _ _, k23⟩
    have HB3 : Hid (Below w.heap.size w w3 ∧ Below w0.heap.size w0 w3) := by
      have hx := HN.out.bel
      have h1 : Below w0.heap.size w0 w3 := by rw [hw3]; exact belS (belN hx hb2) HN.out.lo
      exact ⟨belN HB0.out.1 h1, h1⟩
    have HQ3 : Hid (∀ wz, Below w3.heap.size w3 wz → wz.cell? ⟨B, 0, none⟩ = some (.slice ca code.length cc) ∧ wz.cell? ⟨B, 1, none⟩ = some (.slice aa 1 ac) ∧ wz.cell? ⟨B, 2, none⟩ = some (.int .i64 2) ∧ wz.cell? ⟨B, 3, none⟩ = some (.slice (some ⟨g, 0, none⟩) 1 gcap)) := fun wz hz => by
      have ne : ∀ i j : Nat, i ≠ j → (⟨B, i, none⟩ : Addr) ≠ ⟨B, j, none⟩ := fun i j h e => h (by simp only [Addr.mk.injEq] at e; omega)
      refine ⟨keepA hz ?_, keepA hz ?_, keepA hz ?_, keepA hz ?_⟩
      · rw [hw3, World.cell?_setCell_other (h := ne _ _ (by omega))]; exact c0
      · rw [hw3, World.cell?_setCell_other (h := ne _ _ (by omega))]; exact c1
      · rw [hw3, World.cell?_setCell_other (h := ne _ _ (by omega))]; exact c2
      · rw [hw3]; exact World.cell?_setCell_same _ _ _ c3
    have KOK : Hid (Calls Tryz.prog 29 #[.agg #[.slice ca code.length cc, .slice aa 1 ac, .int .i64 2, .slice (some ⟨g, 0, none⟩) 1 gcap]] w3 fun e w' => e = .returned (.bool (plB (nPl code t))) ∧ Below w3.heap.size w3 w') := specPlainOk_any (nPl code t) ⟨ca, cc, aa, ac, some ⟨g, 0, none⟩, gcap⟩ w3 HPR.out HPS.out
    clear hs2 hb2 k23 hBl
    go_wp2_with (go_at_call 29; fail)
    rw [← hw3]
    clear hw3 c0 c1 c2 c3 fz
    refine KOK.out.mono ?_
    rintro e w4 ⟨rfl, hb4⟩
    obtain ⟨p0, p1, p2, p3⟩ := HQ3.out w4 hb4
    have zp : ZP w4 (w.heap.size + 1) := HB0.out.2.2.below (belN HB3.out.2 hb4)
    obtain ⟨⟨r0, r1, r2, r3⟩, rf⟩ := zp.cells
    have HW4 : Hid (Below w.heap.size w w4 ∧ PlR w4 (nPl code t) ⟨ca, cc, aa, ac, some ⟨g, 0, none⟩, gcap⟩ ∧ (w.heap.size + 1 < w4.heap.size)) := ⟨belN HB3.out.1 hb4, HPR.out.below hb4, zp.lt⟩
    have hne : ¬ w.heap.size + 1 = B := by have := HN.out.lo; have := HB0.out.2.1; omega
    have HAP : Hid ((plB (nPl code t) = true → aPl code t = nPl code t) ∧ (plB (nPl code t) = false → aPl code t = zPl)) := ⟨fun h => by unfold aPl; rw [if_pos h], fun h => by unfold aPl; rw [h]; rfl⟩
    have HPX : Hid (∀ wy, OutB [w.heap.size + 1] w4 wy → PlK w.heap.size wy (nPl code t) ⟨ca, cc, aa, ac, some ⟨g, 0, none⟩, gcap⟩) := fun wy hy wz hz => HPG.out wz (fun b h1 h2 h3 => by
      have hk := HK23.out
      have h4 := hb4.size
      have h5 := HB0.out.2.1
      have h6 := hy.size
      rw [hz b (by omega) (by omega), hy.block b (by omega) (by simp; omega), hb4.block b (by omega)]; exact hk.2 b h3)
    clear zp hb4 KOK
    obtain ⟨Bo, hBo⟩ : ∃ Bo, plB (nPl code t) = Bo := ⟨_, rfl⟩
    rw [hBo]
    have HBB : Hid (plB (nPl code t) = Bo) := hBo
    clear hBo
    cases Bo
    · go_wp2_with fail
      refine bodyPost_ret (v := .tuple #[.agg #[.slice none 0 0, .slice none 0 0, .int .i64 0, .slice none 0 0], .bool false]) (by simp [results, Tryz.results8, go_sem, r0, r1, r2, r3]) rfl ?_
      rw [HAP.out.2 HBB.out, HBB.out]
      exact ⟨⟨none, 0, none, 0, none, 0⟩, rfl, fun wz _ => (zPl_O wz).plR, belS (belS (belS (belS HW4.out.1 (by omega)) (by omega)) (by omega)) (by omega)⟩
    · go_wp2_with fail
      refine bodyPost_ret (v := .tuple #[.agg #[.slice ca code.length cc, .slice aa 1 ac, .int .i64 2, .slice (some ⟨g, 0, none⟩) 1 gcap], .bool true]) (by simp [results, Tryz.results8, go_sem, r0, r1, r2, r3]) rfl ?_
      rw [HAP.out.1 HBB.out, HBB.out]
      exact ⟨⟨ca, cc, aa, ac, some ⟨g, 0, none⟩, gcap⟩, rfl, HPX.out _ (((((OutB.refl _ w4).set (by simp) 0 _).set (by simp) 1 _).set (by simp) 2 _).set (by simp) 3 _), belS (belS (belS (belS HW4.out.1 (by omega)) (by omega)) (by omega)) (by omega)⟩
end Go.Proofs.YtjibnlpjpbileaaGreatDoor
namespace Go.Proofs.YtjibnlpjpbileaaGreatDoor
open Go.RowKit Atom
open Go.Proofs.YtjibnlpjpbileaaGreatDoor.Code
set_option linter.unusedVariables false

set_option maxHeartbeats 8000000 in
set_option maxRecDepth 100000 in
theorem specPlainNew_nil (ao : Option Addr) (cap : Nat) (t : Tm) (v : Value) (w : World) (hv : RepV 0 w t v) (hst : StS t) (hps : PlS (nPl [] t)) :
    Calls Tryz.prog 8 #[.slice ao 0 cap, v] w fun e w' => ∃ h, e = .returned (.tuple #[plV (aPl [] t) h, .bool (plB (nPl [] t))]) ∧ PlK w.heap.size w' (aPl [] t) h ∧ Below w.heap.size w w' := by
  obtain ⟨va, vb, vc, vd, ve, vf, rfl⟩ := hv.form
  obtain ⟨w0, hw0⟩ : ∃ w0, w0 = (w.alloc (.cells #[.int .i64 va, .int .i64 vb, .string vc, .slice vd ve vf] 38)).alloc (.cells #[.slice none 0 0, .slice none 0 0, .int .i64 0, .slice none 0 0] 32) := ⟨_, rfl⟩
  have hb0 : Below w.heap.size w w0 := by rw [hw0]; exact ((Below.refl _ _).alloc (Nat.le_refl _) _).alloc (by simp) _
  have hz0 : w0.heap.size = w.heap.size + 2 := by rw [hw0]; simp
  have qt : ∀ x, w0.cell? ⟨w.heap.size, x, none⟩ = (#[.int .i64 va, .int .i64 vb, .string vc, .slice vd ve vf] : Array Value)[x]? := fun x => by
    rw [hw0, ((Below.refl _ _).alloc (Nat.le_refl _) _).cell (p := ⟨w.heap.size, x, none⟩) (by simp), World.cell?_alloc_new]
  have qz : ZP w0 (w.heap.size + 1) := by rw [hw0]; exact ZP.new (by simp)
  have HV : Hid (∀ wc, Below w.heap.size w wc → RepV 0 wc t (.agg #[.int .i64 va, .int .i64 vb, .string vc, .slice vd ve vf])) := fun wc hb => (Keeps.below hb 0).repV hv
  have HNEW : Hid (∀ wc, Below w.heap.size w wc → Calls Tryz.prog 27 #[.int .i64 1, .int .i64 0, .agg #[.int .i64 va, .int .i64 vb, .string vc, .slice vd ve vf]] wc fun e w' => ∃ ra rc, e = .returned (.agg #[.int .i64 (nwI 1 0 t 1), .int .i64 (nwI 1 0 t 0), .slice ra (nwR 1 0 t).length rc, .slice none 0 0, .slice none 0 0]) ∧ RA w' wc.heap.size t ra rc ∧ Below wc.heap.size wc w') := fun wc hb => by
    refine (specNew_any9 1 0 t _ wc (HV.out wc hb) hst).mono ?_
    rintro e w' ⟨ra, rc, h1, h2, h3, h4, h5⟩
    exact ⟨ra, rc, h1, ⟨h2, h3, h4⟩, h5⟩
  have HSY : Hid (∀ wc, Below w.heap.size w wc → Calls Tryz.prog 28 #[.slice none 0 0, .int .i64 1, .int .i64 1, .agg #[.int .i64 va, .int .i64 vb, .string vc, .slice vd ve vf]] wc fun e w' => ∃ g cap, e = .returned (.slice (some ⟨g, 0, none⟩) 1 cap) ∧ (∀ wz : World, (∀ b, wc.heap.size ≤ b → b < w'.heap.size → wz.heap[b]? = w'.heap[b]?) → RowS wz (some ⟨g, 0, none⟩) [⟨1, 1, t⟩]) ∧ Below wc.heap.size wc w') := fun wc hb => l11Says0_any 1 1 t _ wc (HV.out wc hb) hst
  have HB0 : Hid (Below w.heap.size w w0 ∧ w0.heap.size = w.heap.size + 2 ∧ ZP w0 (w.heap.size + 1)) := ⟨hb0, hz0, qz⟩
  have HTB : Hid (∀ wc, Below w0.heap.size w0 wc → wc.cell? ⟨w.heap.size, 0, none⟩ = some (.int .i64 va) ∧ wc.cell? ⟨w.heap.size, 1, none⟩ = some (.int .i64 vb) ∧ wc.cell? ⟨w.heap.size, 2, none⟩ = some (.string vc) ∧ wc.cell? ⟨w.heap.size, 3, none⟩ = some (.slice vd ve vf)) := fun wc hb => by
    have hq : ∀ x, wc.cell? ⟨w.heap.size, x, none⟩ = (#[.int .i64 va, .int .i64 vb, .string vc, .slice vd ve vf] : Array Value)[x]? := fun x => by rw [hb.cell (p := ⟨w.heap.size, x, none⟩) (by show w.heap.size < _; omega)]; exact qt x
    exact ⟨hq 0, hq 1, hq 2, hq 3⟩
  have HPS : Hid (PlS (nPl [] t)) := hps
  obtain ⟨i0, hi, hzz0, hzz1, hzz2⟩ := infoParts9 infoIns
  clear hb0 hz0 qt qz hv hst hps
  go_enter Tryz.func8, Tryz.ntmps8
  go_wp2_with fail
  rw [← hw0]
  clear hw0
  obtain ⟨t0, t1, t2, t3⟩ := HTB.out w0 (Below.refl _ _)
  go_cut [6] from 7 to 13 (fun v6 wx => ∃ (B : Nat) (ca : Option Addr) (cc : Nat) (aa : Option Addr) (ac : Nat), v6 = .pointer (some ⟨B, 0, none⟩) ∧ Nw w0 wx [] t B ca cc aa ac)
  case first =>
    have S0 : w0.drew.cell? ⟨w.heap.size, 0, none⟩ = some (.int .i64 va) ∧ w0.drew.cell? ⟨w.heap.size, 1, none⟩ = some (.int .i64 vb) ∧ w0.drew.cell? ⟨w.heap.size, 2, none⟩ = some (.string vc) ∧ w0.drew.cell? ⟨w.heap.size, 3, none⟩ = some (.slice vd ve vf) := HTB.out _ (Below.refl _ _).drew
    go_region_held3 (fun w' => w'.cell? ⟨w.heap.size, 0, none⟩ = some (.int .i64 va) ∧ w'.cell? ⟨w.heap.size, 1, none⟩ = some (.int .i64 vb) ∧ w'.cell? ⟨w.heap.size, 2, none⟩ = some (.string vc) ∧ w'.cell? ⟨w.heap.size, 3, none⟩ = some (.slice vd ve vf)) (first | (refine HTB.out _ ?_; (repeat' first | with_reducible exact H5.out | with_reducible exact H6.out | with_reducible exact Below.refl _ _ | with_reducible refine belA ?_ _ | with_reducible refine belD ?_ | with_reducible refine belS ?_ ?_ | with_reducible exact H6.out.size | with_reducible exact H5.out.size | omega); done) | go_keep) (first
      | (go_at_call 27; refine (HNEW.out _ (belN HB0.out.1 ?_)).mono ?_; (focus (repeat' first | with_reducible exact H5.out | with_reducible exact H6.out | with_reducible exact Below.refl _ _ | with_reducible refine belA ?_ _ | with_reducible refine belD ?_ | with_reducible refine belS ?_ ?_ | with_reducible exact H6.out.size | with_reducible exact H5.out.size | omega)); rintro e w5 ⟨ra, rc, rfl, hra, hb5⟩; refine (have H5 : Hid (Below w0.heap.size w0 w5) := belN ?_ hb5; ?_); (focus (repeat' first | with_reducible exact H5.out | with_reducible exact H6.out | with_reducible exact Below.refl _ _ | with_reducible refine belA ?_ _ | with_reducible refine belD ?_ | with_reducible refine belS ?_ ?_ | with_reducible exact H6.out.size | with_reducible exact H5.out.size | omega)); have HRA : Hid (RA w5 _ t ra rc) := hra; obtain ⟨z0, z1, z2, z3⟩ := HTB.out w5 H5.out; (try (first | (refine (have zz5 : ZP w5 (w0.heap.size) := ZP.below ?_ hb5; ?_); (focus (first | exact zz6 | ((try with_reducible refine ZP.drew ?_); first | (refine ZP.new ?_; (simp; done)) | (refine ZP.alloc (ZP.new ?_) _; (simp; done))))); have HZ5 : Hid (ZP w5 (w0.heap.size)) := zz5; obtain ⟨_, _, _, _, _⟩ := zz5.cellsA; clear zz5) | (refine (have zz5 : ZP w5 (w0.heap.size + 1) := ZP.below ?_ hb5; ?_); (focus (first | exact zz6 | ((try with_reducible refine ZP.drew ?_); first | (refine ZP.new ?_; (simp; done)) | (refine ZP.alloc (ZP.new ?_) _; (simp; done))))); have HZ5 : Hid (ZP w5 (w0.heap.size + 1)) := zz5; obtain ⟨_, _, _, _, _⟩ := zz5.cellsA; clear zz5) | (refine (have zz5 : ZP w5 (w6.heap.size) := ZP.below ?_ hb5; ?_); (focus (first | exact zz6 | ((try with_reducible refine ZP.drew ?_); first | (refine ZP.new ?_; (simp; done)) | (refine ZP.alloc (ZP.new ?_) _; (simp; done))))); have HZ5 : Hid (ZP w5 (w6.heap.size)) := zz5; obtain ⟨_, _, _, _, _⟩ := zz5.cellsA; clear zz5))); have HS5 : Hid (_ ≤ w5.heap.size) := hb5.size; clear hb5 hra)
      | (refine step_append_none rfl (.tmp 7) (.tmp 8) 28 rfl 65 i0 undInsS hi ⟨w0.heap.size, 0, none⟩ ?_ ao cap (by simp [Act.eval]) ?_; (focus (simp [Act.eval]; done)))
      | (refine step_append_none rfl (.tmp 7) (.tmp 8) 28 rfl 65 i0 undInsS hi ⟨w0.heap.size + 1, 0, none⟩ ?_ ao cap (by simp [Act.eval]) ?_; (focus (simp [Act.eval]; done)))
      )
    all_goals
      go_wp2_with fail
      go_meet
      case rel =>
        first
          | (with_reducible refine ⟨_, _, _, _, _, rfl, fin5 (code := []) H5.out (CR.nil ?_) (Below.refl _ _) HRA.out ?_ ?_⟩; (focus (have hh := HS5.out; (try simp only [World.size_alloc, World.size_drew] at hh); omega)); (focus omega); (focus ((try simp only [World.size_alloc, World.size_drew]); omega)))
          | (with_reducible refine ⟨_, _, _, _, _, rfl, fin4 (code := []) H5.out (CR.nil ?_) (Below.refl _ _) HRA.out ?_ ?_⟩; (focus (have hh := HS5.out; (try simp only [World.size_alloc, World.size_drew] at hh); omega)); (focus omega); (focus ((try simp only [World.size_alloc, World.size_drew]); omega)))
          | (with_reducible refine ⟨_, _, _, _, _, rfl, finS (code := []) H5.out ?_ HZ5.out (CR.nil ?_) ?_ (Below.refl _ _) HRA.out ?_ ?_ ?_⟩; (focus omega); (focus (have hh := HS5.out; (try simp only [World.size_alloc, World.size_drew] at hh); omega)); (focus omega); (focus ((try simp only [World.size_alloc, World.size_drew]); omega)); (focus omega); (focus ((try simp only [World.size_alloc, World.size_drew]); omega)))
  case rest =>
    obtain ⟨B, ca, cc, aa, ac, rfl, hn⟩ := hcut
    obtain ⟨w1, hw1⟩ : ∃ w1, w1 = wc := ⟨_, rfl⟩
    obtain rfl := hw1
    have HN : Hid (Nw w0 w1 [] t B ca cc aa ac) := hn
    have hbw1 : Below w.heap.size w w1 := belN HB0.out.1 hn.bel
    have HW1 : Hid (Below w.heap.size w w1) := hbw1
    clear t0 t1 t2 t3
    obtain ⟨t0, t1, t2, t3⟩ := HTB.out w1 hn.bel
    have c3 := hn.c3
    clear hn hbw1
    go_wp2_with (go_at_call 28; fail)
    refine (HSY.out w1 HW1.out).mono ?_
    rintro e w2 ⟨g, gcap, rfl, hs2, hb2⟩
    have HS2 : Hid (∀ wz : World, (∀ b, w1.heap.size ≤ b → b < w2.heap.size → wz.heap[b]? = w2.heap[b]?) → RowS wz (some ⟨g, 0, none⟩) [⟨1, 1, t⟩]) := hs2
    have HB2 : Hid (Below w1.heap.size w1 w2) := hb2
    clear c3 t0 t1 t2 t3
    have hBl : B < w1.heap.size := World.block_lt_of_cell? w1 _ HN.out.c0
    have HBL : Hid (B < w1.heap.size) := hBl
    have c0 : w2.cell? ⟨B, 0, none⟩ = some (.slice ca 0 cc) := keepA hb2 HN.out.c0
    have c1 : w2.cell? ⟨B, 1, none⟩ = some (.slice aa 1 ac) := keepA hb2 HN.out.c1
    have c2 : w2.cell? ⟨B, 2, none⟩ = some (.int .i64 2) := keepA hb2 HN.out.c2
    have c3 : w2.cell? ⟨B, 3, none⟩ = some (.slice none 0 0) := keepA hb2 HN.out.c3
    have fz : ∀ x, w2.frozen? ⟨B, x, none⟩ = false := fun x => by rw [hb2.frozen (p := ⟨B, x, none⟩) hBl]; exact HN.out.fz x
    obtain ⟨w3, hw3⟩ : ∃ w3, w3 = w2.setCell ⟨B, 3, none⟩ (.slice (some ⟨g, 0, none⟩) 1 gcap) := ⟨_, rfl⟩
    have HPG : Hid (∀ wz : World, (∀ b, w0.heap.size ≤ b → b < w2.heap.size → b ≠ B → wz.heap[b]? = w2.heap[b]?) → PlR wz (nPl [] t) ⟨ca, cc, aa, ac, some ⟨g, 0, none⟩, gcap⟩) := fun wz hwz => by
      have hz12 := hb2.size
      have hz01 := HN.out.bel.size
      have kx : Kx w0 B w1 wz := fun b h1 h2 h3 => by rw [hwz b h1 (by omega) h3]; exact hb2.block b h2
      exact ⟨HN.out.code wz kx, HN.out.act wz kx, HS2.out wz (fun b h1 h2 => hwz b (by omega) h2 (by omega)), (fun x hx => by cases hx), (by show 0 ≤ maxLen; omega), by show 1 ≤ maxLen; unfold maxLen; omega, by show 1 ≤ maxLen; unfold maxLen; omega⟩
    have k23 : ∀ b, b ≠ B → w3.heap[b]? = w2.heap[b]? := fun b hb => by rw [hw3]; exact Below.heap_setCell _ ⟨B, 3, none⟩ _ b (by show b ≠ B; exact hb)
    have HPR : Hid (PlR w3 (nPl [] t) ⟨ca, cc, aa, ac, some ⟨g, 0, none⟩, gcap⟩) := HPG.out w3 (fun b _ _ h => k23 b h)
    have HK23 : Hid (w3.heap.size = w2.heap.size ∧ ∀ b, b ≠ B → w3.heap[b]? = w2.heap[b]?) := ⟨by rw [hw3]; exact World.size_setCell _ _ _, k23⟩
    have HB3 : Hid (Below w.heap.size w w3 ∧ Below w0.heap.size w0 w3) := by
      have hx := HN.out.bel
      have h1 : Below w0.heap.size w0 w3 := by rw [hw3]; exact belS (belN hx hb2) HN.out.lo
      exact ⟨belN HB0.out.1 h1, h1⟩
    have HQ3 : Hid (∀ wz, Below w3.heap.size w3 wz → wz.cell? ⟨B, 0, none⟩ = some (.slice ca 0 cc) ∧ wz.cell? ⟨B, 1, none⟩ = some (.slice aa 1 ac) ∧ wz.cell? ⟨B, 2, none⟩ = some (.int .i64 2) ∧ wz.cell? ⟨B, 3, none⟩ = some (.slice (some ⟨g, 0, none⟩) 1 gcap)) := fun wz hz => by
      have ne : ∀ i j : Nat, i ≠ j → (⟨B, i, none⟩ : Addr) ≠ ⟨B, j, none⟩ := fun i j h e => h (by simp only [Addr.mk.injEq] at e; omega)
      refine ⟨keepA hz ?_, keepA hz ?_, keepA hz ?_, keepA hz ?_⟩
      · rw [hw3, World.cell?_setCell_other (h := ne _ _ (by omega))]; exact c0
      · rw [hw3, World.cell?_setCell_other (h := ne _ _ (by omega))]; exact c1
      · rw [hw3, World.cell?_setCell_other (h := ne _ _ (by omega))]; exact c2
      · rw [hw3]; exact World.cell?_setCell_same _ _ _ c3
    have KOK : Hid (Calls Tryz.prog 29 #[.agg #[.slice ca 0 cc, .slice aa 1 ac, .int .i64 2, .slice (some ⟨g, 0, none⟩) 1 gcap]] w3 fun e w' => e = .returned (.bool (plB (nPl [] t))) ∧ Below w3.heap.size w3 w') := specPlainOk_any (nPl [] t) ⟨ca, cc, aa, ac, some ⟨g, 0, none⟩, gcap⟩ w3 HPR.out HPS.out
    clear hs2 hb2 k23 hBl
    go_wp2_with (go_at_call 29; fail)
    rw [← hw3]
    clear hw3 c0 c1 c2 c3 fz
    refine KOK.out.mono ?_
    rintro e w4 ⟨rfl, hb4⟩
    obtain ⟨p0, p1, p2, p3⟩ := HQ3.out w4 hb4
    have zp : ZP w4 (w.heap.size + 1) := HB0.out.2.2.below (belN HB3.out.2 hb4)
    obtain ⟨⟨r0, r1, r2, r3⟩, rf⟩ := zp.cells
    have HW4 : Hid (Below w.heap.size w w4 ∧ PlR w4 (nPl [] t) ⟨ca, cc, aa, ac, some ⟨g, 0, none⟩, gcap⟩ ∧ (w.heap.size + 1 < w4.heap.size)) := ⟨belN HB3.out.1 hb4, HPR.out.below hb4, zp.lt⟩
    have hne : ¬ w.heap.size + 1 = B := by have := HN.out.lo; have := HB0.out.2.1; omega
    have HAP : Hid ((plB (nPl [] t) = true → aPl [] t = nPl [] t) ∧ (plB (nPl [] t) = false → aPl [] t = zPl)) := ⟨fun h => by unfold aPl; rw [if_pos h], fun h => by unfold aPl; rw [h]; rfl⟩
    have HPX : Hid (∀ wy, OutB [w.heap.size + 1] w4 wy → PlK w.heap.size wy (nPl [] t) ⟨ca, cc, aa, ac, some ⟨g, 0, none⟩, gcap⟩) := fun wy hy wz hz => HPG.out wz (fun b h1 h2 h3 => by
      have hk := HK23.out
      have h4 := hb4.size
      have h5 := HB0.out.2.1
      have h6 := hy.size
      rw [hz b (by omega) (by omega), hy.block b (by omega) (by simp; omega), hb4.block b (by omega)]; exact hk.2 b h3)
    clear zp hb4 KOK
    obtain ⟨Bo, hBo⟩ : ∃ Bo, plB (nPl [] t) = Bo := ⟨_, rfl⟩
    rw [hBo]
    have HBB : Hid (plB (nPl [] t) = Bo) := hBo
    clear hBo
    cases Bo
    · go_wp2_with fail
      refine bodyPost_ret (v := .tuple #[.agg #[.slice none 0 0, .slice none 0 0, .int .i64 0, .slice none 0 0], .bool false]) (by simp [results, Tryz.results8, go_sem, r0, r1, r2, r3]) rfl ?_
      rw [HAP.out.2 HBB.out, HBB.out]
      exact ⟨⟨none, 0, none, 0, none, 0⟩, rfl, fun wz _ => (zPl_O wz).plR, belS (belS (belS (belS HW4.out.1 (by omega)) (by omega)) (by omega)) (by omega)⟩
    · go_wp2_with fail
      refine bodyPost_ret (v := .tuple #[.agg #[.slice ca 0 cc, .slice aa 1 ac, .int .i64 2, .slice (some ⟨g, 0, none⟩) 1 gcap], .bool true]) (by simp [results, Tryz.results8, go_sem, r0, r1, r2, r3]) rfl ?_
      rw [HAP.out.1 HBB.out, HBB.out]
      exact ⟨⟨ca, cc, aa, ac, some ⟨g, 0, none⟩, gcap⟩, rfl, HPX.out _ (((((OutB.refl _ w4).set (by simp) 0 _).set (by simp) 1 _).set (by simp) 2 _).set (by simp) 3 _), belS (belS (belS (belS HW4.out.1 (by omega)) (by omega)) (by omega)) (by omega)⟩
end Go.Proofs.YtjibnlpjpbileaaGreatDoor
namespace Go.Proofs.YtjibnlpjpbileaaGreatDoor
open Go.RowKit
set_option linter.unusedVariables false

theorem mrL_get : ∀ (l : List Tm) (K i : Nat) (h : i < (mrL l K).length) (h' : i < l.length), (mrL l K)[i] = mrT l[i] (K + cL (l.take i))
  | [], K, i, h, h' => absurd h' (by simp)
  | t :: r, K, i, h, h' => by
    cases i with
    | zero => simp [mrL, cL]
    | succ j =>
      have hj : j < r.length := by simpa using h'
      have := mrL_get r (K + cT t) j (by rw [mrL_len]; exact hj) hj
      simp only [mrL, List.getElem_cons_succ, this, List.take_succ_cons, cL]
      rw [Nat.add_assoc]
theorem bundrewM {W w3 : World} (hb : Below W.drew.heap.size W.drew w3) : Below W.heap.size W w3 := ⟨hb.os, hb.tape, hb.output, hb.size, hb.block⟩
def HeS (l : List Tm) : Prop := ∀ (w : World) (ao : Option Addr) (cap K : Nat), RepL 0 w (mrL l K) ao → l.length ≤ cap → cap ≤ maxLen → 1 ≤ K → K + cL l ≤ 8999990 →
  Calls Tryz.prog 81 #[.slice ao l.length cap, .int .i64 K] w fun e w' => e = .returned (.int .i64 ((K + cL l : Nat) : Int)) ∧ Below w.heap.size w w'
theorem repL_below {w w' : World} {l : List Tm} {ao : Option Addr} (h : RepL 0 w l ao) (hb : Below w.heap.size w w') : RepL 0 w' l ao := (Keeps.below hb 0).repL _ _ h

set_option maxHeartbeats 4000000 in
set_option maxRecDepth 100000 in
theorem heS_of (l : List Tm) (ih : ∀ t, t ∈ l → ∀ k n s L, t = .mk k n s L → HeS L) : HeS l := by
  intro w ao cap K h hlc hcm hK hKc
  unfold maxLen at hcm
  have HR : Hid (RepL 0 w (mrL l K) ao) := h
  have IH : Hid (∀ t, t ∈ l → ∀ k n s L, t = .mk k n s L → HeS L) := ih
  clear h ih
  go_enter Tryz.func81, Tryz.ntmps81
  go_wp2_with fail
  go_loopw [1, 5] (fun vk vi wr => ∃ i : Nat, i ≤ l.length ∧ vi = .int .i64 i ∧ vk = .int .i64 ((K + cL (l.take i) : Nat) : Int) ∧ Below w.heap.size w wr) (fun _ vi _ => l.length - (intOf vi).toNat)
  case atStart => exact ⟨0, Nat.zero_le _, rfl, by simp [cL], Below.refl _ _⟩
  case round =>
    obtain ⟨i, hi0, rfl, rfl, hb⟩ := hrel
    have HB : Hid (Below w.heap.size w wr) := hb
    by_cases hlt : i < l.length
    · have hcl := cL_take l i hlt
      have hcle := cL_le l (i + 1)
      obtain ⟨b, off, rfl, _, hT⟩ := RepL.at _ _ (repL_below HR.out hb) i (by rw [mrL_len]; exact hlt)
      rw [mrL_get l K i _ hlt] at hT
      have HIM : Hid (∀ k n s L, l[i] = .mk k n s L → HeS L) := IH.out _ (List.getElem_mem hlt)
      generalize l[i] = t at *
      obtain ⟨k0, n0, s0, L0⟩ := t
      obtain ⟨Q, hQ⟩ : ∃ Q, Q = K + cL (l.take i) := ⟨_, rfl⟩
      rw [← hQ] at hT ⊢
      rw [mrT, RepT] at hT
      obtain ⟨h0, h1, h2, hs0, ao0, cap0, h3, hl0, hc0, hOL⟩ := hT
      rw [mrL_len] at h3 hl0
      rw [cT] at hcl
      have hQ3 : Q + 3 + cL L0 ≤ 8999990 := by omega
      have HQN : Hid (K + cL (l.take (i + 1)) = Q + 3 + cL L0) := by show _ = _; omega
      have hQ1 : 1 ≤ Q := by omega
      clear hQ hcl hcle hb
      have HOL : Hid (RepL 0 wr (mrL L0 (Q + 3)) ao0) := hOL
      have HIH : Hid (HeS L0) := HIM.out _ _ _ _ rfl
      have HC0 : Hid (L0.length ≤ cap0 ∧ cap0 ≤ maxLen) := ⟨hl0, hc0⟩
      have HK2 : Hid (((Q : Int) + 1 + 1) = ((Q + 2 : Nat) : Int)) := by show _ = _; omega
      have HK2b : Hid (((Q : Int) + 2) = ((Q + 2 : Nat) : Int)) := by show _ = _; omega
      have HK3 : Hid (((Q : Int) + 1 + 1 + 1) = ((Q + 3 : Nat) : Int)) := by show _ = _; omega
      have HK3c : Hid (((Q : Int) + 2 + 1) = ((Q + 3 : Nat) : Int)) := by show _ = _; omega
      have HK3b : Hid (((Q : Int) + 3) = ((Q + 3 : Nat) : Int)) := by show _ = _; omega
      have hQi : (Q : Int) ≤ 8999990 := by omega
      obtain ⟨x, hx⟩ : ∃ x, mkT (Q + 2) = x := ⟨_, rfl⟩
      have HX : Hid (mkT (Q + 2) = x) := hx
      rw [hx] at h2
      have KC : Hid (∀ w1, Below wr.drew.heap.size wr.drew w1 → w1.cell? ⟨b, off + i * 4 + 2, none⟩ = some (.string x) ∧ w1.cell? ⟨b, off + i * 4 + 3, none⟩ = some (.slice ao0 L0.length cap0) ∧ Below wr.heap.size wr w1) := fun w1 h => by
        have h1 : Below wr.heap.size wr w1 := bundrewM h
        exact ⟨keepM h1 h2, keepM h1 h3, h1⟩
      clear hx hOL hl0 hc0 hs0
      go_wp2_with fail
      go_region_with (go_at_call 41; (first | rw [HK2.out] | rw [HK2b.out]); refine (markText_any (Q + 2) (by omega) (by omega) _).mono ?_; rintro e w1 ⟨rfl, hb1⟩; rw [HX.out]; obtain ⟨c1, c2, hbw⟩ := KC.out w1 hb1; have HBW : Hid (Below wr.heap.size wr w1) := hbw; clear hb1 hbw)
      all_goals
        go_wp2_with (first | (go_at_call 81; (first | rw [HK3.out] | rw [HK3c.out] | rw [HK3b.out]); refine (HIH.out _ ao0 cap0 (Q + 3) (repL_below HOL.out (by first | exact HBW.out | exact HBW.out.drew)) HC0.out.1 HC0.out.2 (by omega) (by omega)).mono ?_; rintro e w5 ⟨rfl, hb5⟩; have HB5 : Hid (Below w.heap.size w w5) := HB.out.trans (Below.mono (by first | exact HBW.out.trans (hb5.mono HBW.out.size) | exact HBW.out.trans ((bundrewM hb5).mono HBW.out.size)) HB.out.size); clear hb5))
        go_roundw
        case rel => exact ⟨i + 1, by omega, by go_num, by rw [HQN.out]; exact congrArg (Value.int .i64) (by omega), HB5.out⟩
        case measure => simp [intOf]; omega
    · have hil : i = l.length := by omega
      have HEQ : Hid (K + cL (l.take i) = K + cL l) := by show _ = _; rw [hil]; simp
      clear hil
      go_wp2_with fail
      go_ret
      exact ⟨ret_int (by have := HEQ.out; omega), HB.out⟩
theorem heT_all : ∀ t : Tm, ∀ k n s L, t = .mk k n s L → HeS L := Tm.ind fun k n s l ih k' n' s' L' e => by
  simp only [Tm.mk.injEq] at e
  obtain ⟨_, _, _, rfl⟩ := e
  exact heS_of l ih
theorem heS_all (l : List Tm) : HeS l := heT_all (.mk 0 0 ByteArray.empty l) _ _ _ _ rfl
end Go.Proofs.YtjibnlpjpbileaaGreatDoor
namespace Go.Proofs.YtjibnlpjpbileaaGreatDoor
open Go.RowKit
open Go.Proofs.YtjibnlpjpbileaaGreatDoor.Code
set_option linter.unusedVariables false

variable {α : Type} {e : Elt α}
/-- One of a row is turned, and what it leads to; all others stay. -/
theorem GR.turn {w w' : World} {A B : List α} {t' : α} {ba bt bb : List Nat} {g f off : Nat} (ho : off = f + A.length * e.s) (hA : GR e w A ba g f) (hB : GR e w B bb g (off + e.s)) (hnd : (g :: (ba ++ (bt ++ bb))).Nodup) (hlt : ∀ x ∈ ba ++ (bt ++ bb), x < w.heap.size) (hout : OutB (g :: bt) w w')
    (hc : ∀ o v, (o < off ∨ off + e.s ≤ o) → w.cell? ⟨g, o, none⟩ = some v → w'.cell? ⟨g, o, none⟩ = some v) (hE : e.E w' t' bt g off) : GR e w' (A ++ t' :: B) (ba ++ (bt ++ bb)) g f := by
  subst ho
  obtain ⟨n1, n2⟩ := List.nodup_cons.1 hnd
  have d1 := List.nodup_append.1 n2
  have d2 := List.nodup_append.1 d1.2.1
  have hg : ∀ x ∈ ba ++ (bt ++ bb), x ≠ g := fun x hx q => n1 (by rw [← q]; exact hx)
  refine GR.join (GR.keep A ba g f (fun x hx _ => hout.block x (hlt x (by simp [hx])) (fun hm => ?_)) (fun o v _ ho hv => hc o v (.inl (by rw [Nat.mul_comm] at ho; omega)) hv) hA) hE (GR.keep B bb g _ (fun x hx _ => hout.block x (hlt x (by simp [hx])) (fun hm => ?_)) (fun o v ho _ hv => hc o v (.inr ho) hv) hB)
  · rcases List.mem_cons.1 hm with rfl | hm
    · exact hg x (by simp [hx]) rfl
    · exact d1.2.2 x hx x (by simp [hm]) rfl
  · rcases List.mem_cons.1 hm with rfl | hm
    · exact hg x (by simp [hx]) rfl
    · exact d2.2.2 x hm x hx rfl
/-! ### Marks of lists -/
def cG (c : α → Nat) : List α → Nat
  | [] => 0
  | t :: r => c t + cG c r
def mrG (m : α → Nat → α) (c : α → Nat) : List α → Nat → List α
  | [], _ => []
  | t :: r, K => m t K :: mrG m c r (K + c t)
variable {m : α → Nat → α} {c : α → Nat}
theorem mrG_len : ∀ (l : List α) (K : Nat), (mrG m c l K).length = l.length
  | [], K => by rw [mrG]
  | t :: r, K => by rw [mrG, List.length_cons, List.length_cons, mrG_len r]
theorem cG_take (l : List α) (i : Nat) (h : i < l.length) : cG c (l.take (i + 1)) = cG c (l.take i) + c l[i] := by
  induction l generalizing i with
  | nil => simp at h
  | cons t r ih =>
    cases i with
    | zero => simp [cG]
    | succ j =>
      have := ih j (by simpa using h)
      rw [List.take_succ_cons, List.take_succ_cons, cG, cG, this]
      simp only [List.getElem_cons_succ]
      omega
theorem mrG_take (l : List α) (i K : Nat) (h : i < l.length) : mrG m c (l.take (i + 1)) K = mrG m c (l.take i) K ++ [m l[i] (K + cG c (l.take i))] := by
  induction l generalizing i K with
  | nil => simp at h
  | cons t r ih =>
    cases i with
    | zero => simp [mrG, cG]
    | succ j =>
      have := ih j (K + c t) (by simpa using h)
      rw [List.take_succ_cons, List.take_succ_cons, mrG, mrG, this, cG]
      simp only [List.getElem_cons_succ, List.cons_append]
      rw [Nat.add_assoc]
theorem cG_le (l : List α) (i : Nat) : cG c (l.take i) ≤ cG c l := by
  induction l generalizing i with
  | nil => simp [cG]
  | cons t r ih =>
    cases i with
    | zero => simp [cG]
    | succ j => rw [List.take_succ_cons, cG, cG]; have := ih j; omega
theorem mrG_get : ∀ (l : List α) (K i : Nat) (h : i < (mrG m c l K).length) (h' : i < l.length), (mrG m c l K)[i] = m l[i] (K + cG c (l.take i))
  | [], K, i, h, h' => absurd h' (by simp)
  | t :: r, K, i, h, h' => by
    cases i with
    | zero => simp [mrG, cG]
    | succ j =>
      have hj : j < r.length := by simpa using h'
      have := mrG_get r (K + c t) j (by rw [mrG_len]; exact hj) hj
      simp only [mrG, List.getElem_cons_succ, this, List.take_succ_cons, cG]
      rw [Nat.add_assoc]

/-! ### Numbers -/
set_option maxHeartbeats 1000000 in
theorem markIntS_any (N : Nat) (f : Nat → Int) (bs : List Nat) (ao : Option Addr) (cap K : Nat) (w : World) (h : OwnN w N f bs ao) (hN : N ≤ maxLen) (hK : K + N ≤ 8999990) :
    Calls Tryz.prog 80 #[.slice ao N cap, .int .i64 K] w fun e w' => e = .returned (.int .i64 ((K + N : Nat) : Int)) ∧ OwnN w' N (fun j => ((K + j : Nat) : Int)) bs ao ∧ OutB bs w w' := by
  rcases h with ⟨h0, hb⟩ | ⟨hn, g, o, hb, ha, hf, hc⟩
  · subst h0 hb
    go_enter Tryz.func80, Tryz.ntmps80
    go_wp2_with fail
    go_loopw [1, 5] (fun vk vi wr => vk = .int .i64 K ∧ vi = .int .i64 0 ∧ wr = w) (fun _ _ _ => 0)
    case atStart => exact ⟨rfl, rfl, rfl⟩
    case round =>
      obtain ⟨rfl, rfl, rfl⟩ := hrel
      go_wp2_with fail
      go_ret
      exact ⟨rfl, .inl ⟨rfl, rfl⟩, OutB.refl _ _⟩
  · subst hb ha
    have HC : Hid (∀ j, j < N → w.cell? ⟨g, o + j, none⟩ = some (.int .i64 (f j))) := hc
    have HF : Hid (∀ x, w.frozen? ⟨g, x, none⟩ = false) := hf
    have HNZ : Hid (N ≠ 0) := hn
    clear hc hf hn
    unfold maxLen at hN
    go_enter Tryz.func80, Tryz.ntmps80
    go_wp2_with fail
    go_loopw [1, 5] (fun vk vi wr => ∃ i : Nat, i ≤ N ∧ vi = .int .i64 i ∧ vk = .int .i64 ((K + i : Nat) : Int) ∧ (∀ j, j < N → wr.cell? ⟨g, o + j, none⟩ = some (.int .i64 (if j < i then ((K + j : Nat) : Int) else f j))) ∧ (∀ x, wr.frozen? ⟨g, x, none⟩ = false) ∧ OutB [g] w wr) (fun _ vi _ => N - (intOf vi).toNat)
    case atStart => exact ⟨0, Nat.zero_le _, rfl, rfl, fun j hj => by rw [if_neg (by omega)]; exact HC.out j hj, HF.out, OutB.refl _ _⟩
    case round =>
      obtain ⟨i, hi, rfl, rfl, hcc, hff, ho⟩ := hrel
      have HCC : Hid (∀ j, j < N → wr.cell? ⟨g, o + j, none⟩ = some (.int .i64 (if j < i then ((K + j : Nat) : Int) else f j))) := hcc
      have HFF : Hid (∀ x, wr.frozen? ⟨g, x, none⟩ = false) := hff
      have HO : Hid (OutB [g] w wr) := ho
      by_cases hlt : i < N
      · have ci := hcc i hlt
        clear hcc ho
        generalize (if i < i then ((K + i : Nat) : Int) else f i) = z at ci
        have HS : Hid ((∀ j, j < N → (wr.setCell ⟨g, o + i, none⟩ (.int .i64 ((K + i : Nat) : Int))).cell? ⟨g, o + j, none⟩ = some (.int .i64 (if j < i + 1 then ((K + j : Nat) : Int) else f j))) ∧ (∀ x, (wr.setCell ⟨g, o + i, none⟩ (.int .i64 ((K + i : Nat) : Int))).frozen? ⟨g, x, none⟩ = false) ∧ OutB [g] w (wr.setCell ⟨g, o + i, none⟩ (.int .i64 ((K + i : Nat) : Int)))) := by
          refine ⟨fun j hj => ?_, fun x => by rw [World.frozen?_setCell]; exact HFF.out x, HO.out.set (by simp) _ _⟩
          by_cases e : j = i
          · subst e
            rw [World.cell?_setCell_same wr _ _ ci, if_pos (by omega)]
          · rw [World.cell?_setCell_other (h := fun q => e (by simp only [Addr.mk.injEq] at q; omega)), HCC.out j hj]
            by_cases h2 : j < i
            · rw [if_pos h2, if_pos (by omega)]
            · rw [if_neg h2, if_neg (by omega)]
        obtain ⟨Q, hQ⟩ : ∃ Q : Nat, Q = K + i := ⟨_, rfl⟩
        have HQ1 : Hid (K + (i + 1) = Q + 1) := by show _ = _; omega
        rw [← hQ] at HS ⊢
        have hQb : (Q : Int) ≤ 8999990 := by omega
        clear hQ
        go_wp2_with fail
        go_roundw
        case rel => exact ⟨i + 1, by omega, by go_num, by rw [HQ1.out]; exact congrArg (Value.int .i64) (by omega), HS.out.1, HS.out.2.1, HS.out.2.2⟩
        case measure => simp [intOf]; omega
      · have hiN : i = N := by omega
        subst hiN
        clear hcc hff ho
        have HE : Hid (∀ j, j < i → wr.cell? ⟨g, o + j, none⟩ = some (.int .i64 ((K + j : Nat) : Int))) := fun j hj => by have := HCC.out j hj; rw [if_pos hj] at this; exact this
        generalize hKi : ((K + i : Nat) : Int) = Z
        have HZ : Hid (((K + i : Nat) : Int) = Z) := hKi
        clear hKi
        go_wp2_with fail
        go_ret
        exact ⟨ret_int HZ.out.symm, .inr ⟨HNZ.out, g, o, rfl, rfl, HFF.out, HE.out⟩, HO.out⟩

set_option maxHeartbeats 1000000 in
theorem heldIntS_any (N : Nat) (ao : Option Addr) (cap K : Nat) (w : World) (h : RdI w ao N (fun j => ((K + j : Nat) : Int))) (hN : N ≤ maxLen) (hK : K + N ≤ 8999990) :
    Calls Tryz.prog 82 #[.slice ao N cap, .int .i64 K] w fun e w' => e = .returned (.int .i64 ((K + N : Nat) : Int)) ∧ Below w.heap.size w w' := by
  have HR : Hid (RdI w ao N (fun j => ((K + j : Nat) : Int))) := h
  clear h
  unfold maxLen at hN
  go_enter Tryz.func82, Tryz.ntmps82
  go_wp2_with fail
  go_loopw [1, 5] (fun vk vi wr => ∃ i : Nat, i ≤ N ∧ vi = .int .i64 i ∧ vk = .int .i64 ((K + i : Nat) : Int) ∧ Below w.heap.size w wr) (fun _ vi _ => N - (intOf vi).toNat)
  case atStart => exact ⟨0, Nat.zero_le _, rfl, rfl, Below.refl _ _⟩
  case round =>
    obtain ⟨i, hi, rfl, rfl, hb⟩ := hrel
    have HB : Hid (Below w.heap.size w wr) := hb
    obtain ⟨Q, hQ⟩ : ∃ Q : Nat, Q = K + i := ⟨_, rfl⟩
    by_cases hlt : i < N
    · obtain ⟨b, o, rfl, hc⟩ := HR.out.below hb (by omega)
      have ci : wr.cell? ⟨b, o + i, none⟩ = some (.int .i64 ((K + i : Nat) : Int)) := hc i hlt
      rw [← hQ] at ci ⊢
      have HQ1 : Hid (K + (i + 1) = Q + 1) := by show _ = _; omega
      have hQb : (Q : Int) ≤ 8999990 := by omega
      clear hc hb hQ
      go_wp2_with fail
      go_roundw
      case rel => exact ⟨i + 1, by omega, by go_num, by rw [HQ1.out]; exact congrArg (Value.int .i64) (by omega), by first | exact HB.out | exact HB.out.drew | exact below_drewN HB.out _⟩
      case measure => simp [intOf]; omega
    · have hiN : i = N := by omega
      subst hiN
      clear hb
      rw [← hQ]
      have HQ1 : Hid (Q = K + i) := hQ
      clear hQ
      go_wp2_with fail
      go_ret
      exact ⟨ret_int (by rw [HQ1.out]), HB.out⟩
end Go.Proofs.YtjibnlpjpbileaaGreatDoor
namespace Go.Proofs.YtjibnlpjpbileaaGreatDoor
open Go.RowKit
open Go.Proofs.YtjibnlpjpbileaaGreatDoor.Code
set_option linter.unusedVariables false

/-! ### Actors -/
def cA (a : Ac) : Nat := 2 + cL a.regs + cL a.box + a.N
def mrA (a : Ac) (K : Nat) : Ac := ⟨K, (K : Int) + 1, mrL a.regs (K + 2), mrL a.box (K + 2 + cL a.regs), a.N, fun j => ((K + 2 + cL a.regs + cL a.box + j : Nat) : Int)⟩
theorem cellOut {bs : List Nat} {w w' : World} (h : OutB bs w w') {b o : Nat} {v : Value} (hn : b ∉ bs) (hc : w.cell? ⟨b, o, none⟩ = some v) : w'.cell? ⟨b, o, none⟩ = some v := by
  rw [World.cell?_of_block (w := w) (h.block b (World.block_lt_of_cell? w _ hc) hn)]; exact hc

set_option maxHeartbeats 4000000 in
set_option maxRecDepth 100000 in
theorem markActorS_any (l : List Ac) (bs : List Nat) (ao : Option Addr) (cap K : Nat) (w : World) (h : GL eltA w l bs ao) (hnd : bs.Nodup) (hl : l.length ≤ maxLen) (hK1 : 1 ≤ K) (hK : K + cG cA l ≤ 8999990) :
    Calls Tryz.prog 43 #[.slice ao l.length cap, .int .i64 K] w fun e w' => e = .returned (.int .i64 ((K + cG cA l : Nat) : Int)) ∧ GL eltA w' (mrG mrA cA l K) bs ao ∧ OutB bs w w' := by
  rcases h with ⟨h0, hb⟩ | ⟨hne, g, f, b0, hb, ha, hf, hr⟩
  · subst h0 hb
    go_enter Tryz.func43, Tryz.ntmps43
    go_wp2_with fail
    go_loopw [1, 5] (fun vk vi wr => vk = .int .i64 K ∧ vi = .int .i64 0 ∧ wr = w) (fun _ _ _ => 0)
    case atStart => exact ⟨rfl, rfl, rfl⟩
    case round =>
      obtain ⟨rfl, rfl, rfl⟩ := hrel
      go_wp2_with fail
      go_ret
      exact ⟨by simp [cG], by rw [mrG]; exact GL.nil _ _, OutB.refl _ _⟩
  · subst hb ha
    have HR : Hid (GR eltA w l b0 g f) := hr
    have HFZ : Hid (∀ x, w.frozen? ⟨g, x, none⟩ = false) := hf
    have HNE : Hid (l ≠ []) := hne
    have HND : Hid ((g :: b0).Nodup) := hnd
    clear hr hf hne hnd
    unfold maxLen at hl
    go_enter Tryz.func43, Tryz.ntmps43
    go_wp2_with fail
    go_loopw [1, 5] (fun vk vi wr => ∃ i : Nat, i ≤ l.length ∧ vi = .int .i64 i ∧ vk = .int .i64 ((K + cG cA (l.take i) : Nat) : Int) ∧ GR eltA wr (mrG mrA cA (l.take i) K ++ l.drop i) b0 g f ∧ (∀ o, wr.frozen? ⟨g, o, none⟩ = false) ∧ OutB (g :: b0) w wr) (fun _ vi _ => l.length - (intOf vi).toNat)
    case atStart => exact ⟨0, Nat.zero_le _, rfl, by simp [cG], by simpa [mrG] using HR.out, HFZ.out, OutB.refl _ _⟩
    case round =>
      obtain ⟨i, hi0, rfl, rfl, hr, hff, ho⟩ := hrel
      by_cases hlt : i < l.length
      · have hcl := cG_take (c := cA) l i hlt
        have hcle := cG_le (c := cA) l (i + 1)
        rw [List.drop_eq_getElem_cons hlt] at hr
        have hltw := GR.lt hr
        obtain ⟨ba, bt, bb, eb, hA, hE, hB⟩ := GR.split hr
        have hAl : (mrG mrA cA (l.take i) K).length = i := by rw [mrG_len]; simp; omega
        have HMR : Hid (mrG mrA cA (l.take (i + 1)) K = mrG mrA cA (l.take i) K ++ [mrA l[i] (K + cG cA (l.take i))]) := mrG_take l i K hlt
        have hnd := HND.out
        rw [eb] at hnd hltw
        have hs5 : (eltA).s = 5 := rfl
        rw [hAl, hs5] at hE hB
        obtain ⟨hh, hbx, b1, b2, b3, ebt, hq⟩ := hE
        have hoff : f + i * 5 = f + (mrG mrA cA (l.take i) K).length * (eltA).s := by rw [hAl, hs5]
        have HT : Hid (∀ w', OutB (g :: bt) wr w' → (∀ o v, (o < f + i * 5 ∨ f + i * 5 + 5 ≤ o) → wr.cell? ⟨g, o, none⟩ = some v → w'.cell? ⟨g, o, none⟩ = some v) → (eltA).E w' (mrA l[i] (K + cG cA (l.take i))) bt g (f + i * 5) → GR eltA w' (mrG mrA cA (l.take i) K ++ mrA l[i] (K + cG cA (l.take i)) :: l.drop (i + 1)) b0 g f) := fun w' h1 h2 h3 => by
          rw [eb]
          exact GR.turn (e := eltA) hoff hA hB hnd hltw h1 h2 h3
        have hgw : g < wr.heap.size := World.block_lt_of_cell? wr _ hbx.c0
        generalize l[i] = a at *
        obtain ⟨pid, pc, regs, box, N, fl⟩ := a
        obtain ⟨ra, rc, bxa, bc, la, lc⟩ := hh
        obtain ⟨Q, hQ⟩ : ∃ Q, Q = K + cG cA (l.take i) := ⟨_, rfl⟩
        rw [← hQ] at HMR HT ⊢
        have hcA : cA ⟨pid, pc, regs, box, N, fl⟩ = 2 + cL regs + cL box + N := rfl
        rw [hcA] at hcl
        have hQ3 : Q + (2 + cL regs + cL box + N) ≤ 8999990 := by omega
        have HQN : Hid (K + cG cA (l.take (i + 1)) = Q + 2 + cL regs + cL box + N) := by show _ = _; omega
        have hQi : (Q : Int) ≤ 8999990 := by omega
        have hQ1 : 1 ≤ Q := by omega
        clear hQ hcl hcle
        have c0 := hbx.c0
        have c1 := hbx.c1
        have c2 := hbx.c2
        have c3 := hbx.c3
        have c4 := hbx.c4
        dsimp only at c0 c1 c2 c3 c4
        subst ebt
        -- who is where
        obtain ⟨n1, n2⟩ := List.nodup_cons.1 hnd
        have d1 := List.nodup_append.1 n2
        have d2 := List.nodup_append.1 d1.2.1
        have d3 := List.nodup_append.1 d2.1
        have d4 := List.nodup_append.1 d3.2.1
        have g1 : g ∉ b1 := fun hm => n1 (by simp [hm])
        have g2 : g ∉ b2 := fun hm => n1 (by simp [hm])
        have g3 : g ∉ b3 := fun hm => n1 (by simp [hm])
        have x12 : ∀ x ∈ b1, x ∉ b2 := fun x h1 h2 => d3.2.2 x h1 x (by simp [h2]) rfl
        have x13 : ∀ x ∈ b1, x ∉ b3 := fun x h1 h3 => d3.2.2 x h1 x (by simp [h3]) rfl
        have x23 : ∀ x ∈ b2, x ∉ b3 := fun x h2 h3 => d4.2.2 x h2 x h3 rfl
        have HG : Hid (g ∉ b1 ∧ g ∉ b2 ∧ g ∉ b3 ∧ (∀ x ∈ b1, x ∉ b2) ∧ (∀ x ∈ b1, x ∉ b3) ∧ (∀ x ∈ b2, x ∉ b3) ∧ b1.Nodup ∧ b2.Nodup ∧ b3.Nodup) := ⟨g1, g2, g3, x12, x13, x23, d3.1, d4.1, d4.2.1⟩
        obtain ⟨W, hW⟩ : ∃ W, W = two wr g (f + i * 5) (.int .i64 Q) (.int .i64 ((Q : Int) + 1)) := ⟨_, rfl⟩
        have hWb : ∀ x, x ≠ g → W.heap[x]? = wr.heap[x]? := fun x hx => by rw [hW]; exact two_block hx
        have hWs : W.heap.size = wr.heap.size := by rw [hW]; exact two_size
        have hin := two_in (x := .int .i64 Q) (y := .int .i64 ((Q : Int) + 1)) c0 c1
        rw [← hW] at hin
        have hfar : ∀ o v, (o < f + i * 5 ∨ f + i * 5 + 1 < o) → wr.cell? ⟨g, o, none⟩ = some v → W.cell? ⟨g, o, none⟩ = some v := fun o v hov hv => by rw [hW, two_far1 (Or.inr hov)]; exact hv
        have HO1 : Hid (OsL W regs b1 ra ∧ OsL W box b2 bxa ∧ OwnN W N fl b3 la) := ⟨OsL.keep _ _ _ (fun x hx _ => hWb x (fun q => g1 (by rw [← q]; exact hx))) hq.regs, OsL.keep _ _ _ (fun x hx _ => hWb x (fun q => g2 (by rw [← q]; exact hx))) hq.box, hq.links.keep (fun x hx _ => hWb x (fun q => g3 (by rw [← q]; exact hx)))⟩
        have HCW : Hid (W.cell? ⟨g, f + i * 5, none⟩ = some (.int .i64 Q) ∧ W.cell? ⟨g, f + i * 5 + 1, none⟩ = some (.int .i64 ((Q : Int) + 1)) ∧ W.cell? ⟨g, f + i * 5 + 2, none⟩ = some (.slice ra regs.length rc) ∧ W.cell? ⟨g, f + i * 5 + 3, none⟩ = some (.slice bxa box.length bc) ∧ W.cell? ⟨g, f + i * 5 + 4, none⟩ = some (.slice la N lc)) := ⟨hin.1, hin.2, hfar _ _ (by omega) c2, hfar _ _ (by omega) c3, hfar _ _ (by omega) c4⟩
        have HFAR : Hid (∀ o v, (o < f + i * 5 ∨ f + i * 5 + 5 ≤ o) → wr.cell? ⟨g, o, none⟩ = some v → W.cell? ⟨g, o, none⟩ = some v) := fun o v hov hv => hfar o v (by omega) hv
        have HBD : Hid (regs.length ≤ rc ∧ rc ≤ maxLen ∧ box.length ≤ bc ∧ bc ≤ maxLen ∧ N ≤ lc ∧ lc ≤ maxLen) := ⟨hq.r1, hq.r2, hq.x1, hq.x2, hq.l1, hq.l2⟩
        have HOW : Hid (OutB (g :: (b1 ++ (b2 ++ b3))) wr W) := by
          rw [hW]
          exact ((OutB.refl _ wr).set (by simp) _ _).set (by simp) _ _
        have HFW : Hid (∀ o, W.frozen? ⟨g, o, none⟩ = false) := fun o => by rw [hW, two_frozen]; exact hff o
        have HO : Hid (OutB (g :: b0) w wr) := ho
        have HSUB : Hid (∀ x ∈ g :: (b1 ++ (b2 ++ b3)), x ∈ g :: b0) := fun x hx => by
          rw [eb]
          rcases List.mem_cons.1 hx with rfl | hx
          · simp
          · exact List.mem_cons_of_mem _ (List.mem_append_right _ (List.mem_append_left _ hx))
        have e2 : ((Q : Int) + 1 + 1) = ((Q + 2 : Nat) : Int) := by omega
        have e2' : ((Q : Int) + 2) = ((Q + 2 : Nat) : Int) := by omega
        have HE2 : Hid (((Q : Int) + 1 + 1) = ((Q + 2 : Nat) : Int) ∧ ((Q : Int) + 2) = ((Q + 2 : Nat) : Int)) := ⟨e2, e2'⟩
        clear hr hA hB hbx hq hnd hltw n1 n2 d1 d2 d3 d4 g1 g2 g3 x12 x13 x23 hWb hin hfar ho e2 e2' eb hoff hcA hs5 hAl
        have fz : ∀ o, wr.frozen? ⟨g, o, none⟩ = false := hff
        have HW' : Hid ((wr.setCell ⟨g, f + i * 5, none⟩ (.int .i64 Q)).setCell ⟨g, f + i * 5 + 1, none⟩ (.int .i64 ((Q : Int) + 1)) = W) := by show _ = _; rw [hW]; rfl
        clear hW
        go_wp2_with (go_at_call 42; fail)
        rw [HW'.out]
        clear HW' c0 c1 c2 c3 c4 fz
        first | rw [HE2.out.1] | rw [HE2.out.2]
        refine (mkB_all regs W b1 ra rc (Q + 2) HO1.out.1 HG.out.2.2.2.2.2.2.1 HBD.out.1 HBD.out.2.1 (by omega) (by omega)).mono ?_
        rintro e w2 ⟨rfl, hO2, hout2⟩
        have HO2 : Hid (OsL w2 (mrL regs (Q + 2)) b1 ra ∧ OsL w2 box b2 bxa ∧ OwnN w2 N fl b3 la ∧ OutB b1 W w2) := ⟨hO2, OsL.keep _ _ _ (fun x hx hlx => hout2.block x hlx (fun hm => HG.out.2.2.2.1 x hm hx)) HO1.out.2.1, HO1.out.2.2.keep (fun x hx hlx => hout2.block x hlx (fun hm => HG.out.2.2.2.2.1 x hm hx)), hout2⟩
        have c3 := cellOut hout2 HG.out.1 HCW.out.2.2.2.1
        have HQ2 : Hid (1 ≤ Q + 2 + cL regs ∧ Q + 2 + cL regs + cL box ≤ 8999990 ∧ Q + 2 + cL regs + cL box + N ≤ 8999990) := by refine ⟨?_, ?_, ?_⟩ <;> omega
        clear hO2 hout2
        generalize hR2 : ((Q + 2 + cL regs : Nat) : Int) = Z2
        have HR2 : Hid (((Q + 2 + cL regs : Nat) : Int) = Z2) := hR2
        clear hR2
        go_wp2_with (go_at_call 42; fail)
        rw [← HR2.out]
        refine (mkB_all box w2 b2 bxa bc (Q + 2 + cL regs) HO2.out.2.1 HG.out.2.2.2.2.2.2.2.1 HBD.out.2.2.1 HBD.out.2.2.2.1 HQ2.out.1 HQ2.out.2.1).mono ?_
        rintro e w3 ⟨rfl, hO3, hout3⟩
        have HO3 : Hid (OsL w3 (mrL regs (Q + 2)) b1 ra ∧ OsL w3 (mrL box (Q + 2 + cL regs)) b2 bxa ∧ OwnN w3 N fl b3 la ∧ OutB b2 w2 w3) := ⟨OsL.keep _ _ _ (fun x hx hlx => hout3.block x hlx (HG.out.2.2.2.1 x hx)) HO2.out.1, hO3, HO2.out.2.2.1.keep (fun x hx hlx => hout3.block x hlx (fun hm => HG.out.2.2.2.2.2.1 x hm hx)), hout3⟩
        have c4 := cellOut hout3 HG.out.2.1 (cellOut HO2.out.2.2.2 HG.out.1 HCW.out.2.2.2.2)
        clear hO3 hout3 c3
        generalize hR3 : ((Q + 2 + cL regs + cL box : Nat) : Int) = Z3
        have HR3 : Hid (((Q + 2 + cL regs + cL box : Nat) : Int) = Z3) := hR3
        clear hR3
        go_wp2_with (go_at_call 80; fail)
        rw [← HR3.out]
        refine (markIntS_any N fl b3 la lc (Q + 2 + cL regs + cL box) w3 HO3.out.2.2.1 (Nat.le_trans HBD.out.2.2.2.2.1 HBD.out.2.2.2.2.2) HQ2.out.2.2).mono ?_
        rintro e w4 ⟨rfl, hO4, hout4⟩
        have HO4 : Hid (OsL w4 (mrL regs (Q + 2)) b1 ra ∧ OsL w4 (mrL box (Q + 2 + cL regs)) b2 bxa ∧ OwnN w4 N (fun j => ((Q + 2 + cL regs + cL box + j : Nat) : Int)) b3 la ∧ OutB b3 w3 w4) := ⟨OsL.keep _ _ _ (fun x hx hlx => hout4.block x hlx (HG.out.2.2.2.2.1 x hx)) HO3.out.1, OsL.keep _ _ _ (fun x hx hlx => hout4.block x hlx (HG.out.2.2.2.2.2.1 x hx)) HO3.out.2.1, hO4, hout4⟩
        clear hO4 hout4 c4
        have HCELL : Hid (∀ o v, W.cell? ⟨g, o, none⟩ = some v → w4.cell? ⟨g, o, none⟩ = some v) := fun o v hv => cellOut HO4.out.2.2.2 HG.out.2.2.1 (cellOut HO3.out.2.2.2 HG.out.2.1 (cellOut HO2.out.2.2.2 HG.out.1 hv))
        have HOUT : Hid (OutB (g :: (b1 ++ (b2 ++ b3))) wr w4) := HOW.out.trans ((HO2.out.2.2.2.wide (fun x hx => by simp [hx])).trans ((HO3.out.2.2.2.wide (fun x hx => by simp [hx])).trans (HO4.out.2.2.2.wide (fun x hx => by simp [hx]))))
        have HFIN : Hid (GR eltA w4 (mrG mrA cA (l.take (i + 1)) K ++ l.drop (i + 1)) b0 g f) := by
          show GR ..
          rw [HMR.out, List.append_assoc]
          refine HT.out w4 HOUT.out (fun o v hov hv => HCELL.out o v (HFAR.out o v hov hv)) ⟨⟨ra, rc, bxa, bc, la, lc⟩, ⟨HCELL.out _ _ HCW.out.1, HCELL.out _ _ HCW.out.2.1, ?_, ?_, HCELL.out _ _ HCW.out.2.2.2.2⟩, b1, b2, b3, rfl, HO4.out.1, HO4.out.2.1, HO4.out.2.2.1, ?_, HBD.out.2.1, ?_, HBD.out.2.2.2.1, HBD.out.2.2.2.2.1, HBD.out.2.2.2.2.2⟩
          · show w4.cell? _ = some (.slice ra (mrL regs (Q + 2)).length rc)
            rw [mrL_len]; exact HCELL.out _ _ HCW.out.2.2.1
          · show w4.cell? _ = some (.slice bxa (mrL box (Q + 2 + cL regs)).length bc)
            rw [mrL_len]; exact HCELL.out _ _ HCW.out.2.2.2.1
          · show (mrL regs (Q + 2)).length ≤ rc
            rw [mrL_len]; exact HBD.out.1
          · show (mrL box (Q + 2 + cL regs)).length ≤ bc
            rw [mrL_len]; exact HBD.out.2.2.1
        have HF4 : Hid (∀ o, w4.frozen? ⟨g, o, none⟩ = false) := fun o => by
          have z2 := HO2.out.2.2.2.size
          have z3 := HO3.out.2.2.2.size
          rw [World.frozen?_of_block (w := w3) (HO4.out.2.2.2.block g (by omega) HG.out.2.2.1), World.frozen?_of_block (w := w2) (HO3.out.2.2.2.block g (by omega) HG.out.2.1), World.frozen?_of_block (w := W) (HO2.out.2.2.2.block g (by omega) HG.out.1)]
          exact HFW.out o
        have HO5 : Hid (OutB (g :: b0) w w4) := HO.out.trans (HOUT.out.wide HSUB.out)
        generalize hR4 : ((Q + 2 + cL regs + cL box + N : Nat) : Int) = Z4
        have HR4 : Hid (((Q + 2 + cL regs + cL box + N : Nat) : Int) = Z4) := hR4
        clear hR4
        go_wp2_with fail
        go_roundw
        case rel => exact ⟨i + 1, by omega, by go_num, by rw [HQN.out]; exact congrArg (Value.int .i64) HR4.out.symm, HFIN.out, HF4.out, HO5.out⟩
        case measure => simp [intOf]; omega
      · have hil : i = l.length := by omega
        have HE : Hid (GR eltA wr (mrG mrA cA l K) b0 g f) := by
          show GR ..
          rw [hil] at hr
          simpa using hr
        have HEQ : Hid (K + cG cA (l.take i) = K + cG cA l) := by show _ = _; rw [hil]; simp
        have HF : Hid (∀ o, wr.frozen? ⟨g, o, none⟩ = false) := hff
        have HO : Hid (OutB (g :: b0) w wr) := ho
        have HNE2 : Hid (mrG mrA cA l K ≠ []) := by
          intro e
          have := mrG_len (m := mrA) (c := cA) l K
          rw [e] at this
          exact HNE.out (List.eq_nil_of_length_eq_zero this.symm)
        clear hr hff ho hil
        go_wp2_with fail
        go_ret
        exact ⟨ret_int (by have := HEQ.out; omega), .inr ⟨HNE2.out, g, f, b0, rfl, rfl, HF.out, HE.out⟩, HO.out⟩
end Go.Proofs.YtjibnlpjpbileaaGreatDoor
