/-
  The law of CellOk, walked.
  (Ahead of it, in this text: agesOk: no thing that was met leads to a younger one.
  The program's GensOk.
  The program's GensOk: four questions, one behind the other. The specification's GensOk.
  The law over GensOk is walked. CellOk: the program. CellOk: the specification. The measure of two lists, from any number on.)
-/
import Derived.Test.YtjjmikfbongccaaGreatDoorUD
import Derived.Test.YtjjmikfbongccaaGreatDoorInn
import Derived.Test.YtjjmikfbongccaaGreatDoorUE
import Derived.Test.YtjjmikfbongccaaGreatDoorUF
import Derived.Deep.RegionLaw
import Derived.Deep.RegionHeld3
import Derived.Test.YtjjmikfbongccaaGreatDoorUH
import Derived.Test.YtjjmikfbongccaaGreatDoorUW
import Derived.Test.YtjjmikfbongccaaGreatDoorSiA
import Derived.Deep.CutRange
namespace Go.Proofs.YtjjmikfbongccaaGreatDoor.Gn
open Go.RowKit Go.Maps
set_option linter.unusedVariables false

/-- The list of things, as it is read. -/
def Lsv (G : GE) (w : World) (ths : List Th) (a : Option Addr) : Prop := ths.length ≠ 0 → ∃ g, a = some ⟨g, 0, none⟩ ∧ ∀ j (h : j < ths.length), w.cell? ⟨g, j * 2, none⟩ = some (.int .i64 ths[j].x) ∧ w.cell? ⟨g, j * 2 + 1, none⟩ = some (.slice (some ⟨G.sb ths[j].p, G.so ths[j].p, none⟩) ths[j].K ths[j].c)
def AgP (G : GE) (w : World) (ths : List Th) (e : Ending) (w' : World) : Prop := ∃ r : Bool, e = .returned (.bool r) ∧ (r = true ↔ ∀ t ∈ ths, Eok G.H G.mark t.x) ∧ Below w.heap.size w w'
theorem take_snoc {α : Type} {l : List α} {j : Nat} (h : j < l.length) : l.take (j + 1) = l.take j ++ [l[j]] := by rw [List.take_add_one, List.getElem?_eq_getElem h]; rfl
theorem all_snoc {α : Type} {P : α → Prop} {l : List α} {x : α} (h : ∀ y ∈ l, P y) (hx : P x) : ∀ y ∈ l ++ [x], P y := fun y hy => by
  rcases List.mem_append.1 hy with hy | hy
  · exact h y hy
  · have e : y = x := by simpa using hy
    rw [e]; exact hx
theorem prts_big {G : GE} {w : World} (hs : GSrc G w) {y : Int} {p K f0 : Nat} (k : Kin G y p K f0) {z : Int} (hz : z ∈ prts G.H y) : z ≤ 9223372036854775807 := by
  by_cases h6 : tagW y = 6
  · rw [k.prb h6] at hz; exact absurd hz (by simp)
  · rw [k.prt h6] at hz
    obtain ⟨j, _, rfl⟩ := List.mem_map.1 hz
    unfold GE.w
    split
    · exact hs.big _
    · exact hs.bigy _
set_option maxHeartbeats 8000000 in
set_option maxRecDepth 100000 in
theorem ages_any {G : GE} {w : World} (hs : GSrc G w) (ths : List Th) (hok : ∀ t ∈ ths, Th.ok G t) (hfew : ths.length ≤ 1600008) (a : Option Addr) (c : Nat) (hl : Lsv G w ths a) :
    Calls Tryz.prog 57 #[G.v, .slice a ths.length c] w (AgP G w ths) := by
  have HS : Hid (GSrc G w) := hs
  have HOK : Hid (∀ t ∈ ths, Th.ok G t) := hok
  have HL : Hid (Lsv G w ths a) := hl
  obtain ⟨n, hn⟩ : ∃ n, ths.length = n := ⟨_, rfl⟩
  rw [hn] at hfew ⊢
  have HN : Hid (ths.length = n) := hn
  have HB0 : Hid (Below w.heap.size w (w.alloc (.cells #[.slice G.wv G.N G.cap, .slice G.yv G.M G.ycap, .int .i64 G.mark] 38))) := (Below.refl _ _).alloc (Nat.le_refl _) _
  have g0 : ∀ o, (w.alloc (.cells #[.slice G.wv G.N G.cap, .slice G.yv G.M G.ycap, .int .i64 G.mark] 38)).cell? ⟨w.heap.size, o, none⟩ = (#[.slice G.wv G.N G.cap, .slice G.yv G.M G.ycap, .int .i64 G.mark] : Array Value)[o]? := fun o => World.cell?_alloc_new w _ _ o
  clear hs hok hl hn
  go_enter Tryz.func57, Tryz.ntmps57
  go_wp2_with fail
  generalize (w.alloc (.cells #[.slice G.wv G.N G.cap, .slice G.yv G.M G.ycap, .int .i64 G.mark] 38)) = W at HB0 g0 ⊢
  generalize hX : w.heap.size = X at g0 ⊢
  have HX : Hid (w.heap.size = X) := hX
  clear hX
  go_loopw [11] (fun i wr => ∃ j : Nat, i = .int .i64 j ∧ j ≤ n ∧ (∀ t ∈ ths.take j, Eok G.H G.mark t.x) ∧ Below W.heap.size W wr) (fun i _ => n - (intOf i).toNat)
  case atStart => exact ⟨0, rfl, Nat.zero_le _, by simp, Below.refl _ _⟩
  case round =>
    obtain ⟨j, rfl, hj, hall, hbe⟩ := hrel
    have hg : ∀ o, wr.cell? ⟨X, o, none⟩ = (#[.slice G.wv G.N G.cap, .slice G.yv G.M G.ycap, .int .i64 G.mark] : Array Value)[o]? := fun o => by
      have h0 : W.cell? ⟨X, 0, none⟩ = some (.slice G.wv G.N G.cap) := g0 0
      have hlt : X < W.heap.size := World.block_lt_of_cell? W _ h0
      rw [hbe.cell (p := ⟨X, o, none⟩) hlt]; exact g0 o
    have HBE : Hid (Below w.heap.size w wr) := HB0.out.trans (hbe.mono HB0.out.size)
    have HBW : Hid (Below W.heap.size W wr) := hbe
    have HALL : Hid (∀ t ∈ ths.take j, Eok G.H G.mark t.x) := hall
    clear hbe hall
    by_cases hlt : j < n
    case neg =>
      have hlti : ¬ (j : Int) < (n : Int) := by omega
      go_wp2_with fail
      go_ret
      refine ⟨true, rfl, ⟨fun _ => ?_, fun _ => rfl⟩, HBE.out⟩
      have h := HALL.out
      rw [List.take_of_length_le (by have := HN.out; omega)] at h
      exact h
    case pos =>
      have hlti : (j : Int) < (n : Int) := by omega
      have hjl : j < ths.length := by have := HN.out; omega
      obtain ⟨g, ha, hcells⟩ := HL.out (by omega)
      subst ha
      have hc0 := (hcells j hjl).1
      have hc1 := (hcells j hjl).2
      obtain ⟨t, ht⟩ : ∃ t, ths[j] = t := ⟨_, rfl⟩
      have HT : Hid (ths.take (j + 1) = ths.take j ++ [t]) := by show _ = _; rw [take_snoc hjl, ht]
      have hto : Th.ok G t := HOK.out t (by rw [← ht]; exact List.getElem_mem hjl)
      have HMEM : Hid (t ∈ ths) := by show _ ∈ _; rw [← ht]; exact List.getElem_mem hjl
      rw [ht] at hc0 hc1
      have hd0 := (HBE.out.cell (p := ⟨g, j * 2, none⟩) (World.block_lt_of_cell? _ _ hc0)).trans hc0
      have hd1 := (HBE.out.cell (p := ⟨g, j * 2 + 1, none⟩) (World.block_lt_of_cell? _ _ hc1)).trans hc1
      obtain ⟨x, p, K, f0, c2⟩ := t
      have HTO : Hid (Th.ok G ⟨x, p, K, f0, c2⟩) := hto
      clear hcells ht hc0 hc1 hto
      simp only at hd0 hd1
      go_wp2_with (go_at_call 74; refine (parts_any x _ _ K c2 HTO.out.big HTO.out.kin.k1 HTO.out.kin.k9 HTO.out.le _).mono ?_; rintro e w6 ⟨a6, c6, rfl, ha6, hb6⟩)
      have h2x := (Below.refl wr.heap.size wr).alloc (Nat.le_refl _) (.cells #[.int .i64 x, .slice (some ⟨G.sb p, G.so p, none⟩) K c2] 112)
      have hb7 : Below wr.heap.size wr w6 := h2x.trans (hb6.mono h2x.size)
      have bx : ∀ o, w6.cell? ⟨wr.heap.size, o, none⟩ = (#[.int .i64 x, .slice (some ⟨G.sb p, G.so p, none⟩) K c2] : Array Value)[o]? := fun o => by
        rw [hb6.cell (p := ⟨wr.heap.size, o, none⟩) (by show _ < _; simp)]
        exact World.cell?_alloc_new wr _ _ o
      have hg6 : ∀ o, w6.cell? ⟨X, o, none⟩ = (#[.slice G.wv G.N G.cap, .slice G.yv G.M G.ycap, .int .i64 G.mark] : Array Value)[o]? := fun o => by
        have h0 : wr.cell? ⟨X, 0, none⟩ = some (.slice G.wv G.N G.cap) := hg 0
        have hlt : X < wr.heap.size := World.block_lt_of_cell? wr _ h0
        rw [hb7.cell (p := ⟨X, o, none⟩) hlt]; exact hg o
      have HB6 : Hid (Below w.heap.size w w6 ∧ Below W.heap.size W w6) := ⟨HBE.out.trans (hb7.mono HBE.out.size), HBW.out.trans (hb7.mono HBW.out.size)⟩
      obtain ⟨hpl, hroots⟩ := parts_row HS.out HTO.out.kin ha6
      have HZB : Hid (∀ z ∈ prts G.H x, z ≤ 9223372036854775807) := fun z hz => prts_big HS.out HTO.out.kin hz
      have hL9 : npr x K ≤ 41 := by have h1 : K ≤ 41 := HTO.out.kin.k9; unfold npr; split <;> (try split) <;> omega
      generalize npr x K = L at hpl hL9 ⊢
      generalize wr.heap.size = Y at bx ⊢
      have HRT : Hid (Roots w a6 (prts G.H x)) := hroots
      have HPL : Hid ((prts G.H x).length = L) := hpl
      have HEO : Hid (Eok G.H G.mark x ↔ ∀ z ∈ prts G.H x, leadsW z = true → agW G.mark z ≤ agW G.mark x) := Iff.rfl
      clear hb6 hb7 h2x ha6 hg hd0 hd1 hpl hroots HBE HBW g0
      generalize prts G.H x = zs at HRT HPL HEO HZB
      go_loopw [18] (fun i wr => ∃ m : Nat, i = .int .i64 m ∧ m ≤ L ∧ (∀ z ∈ zs.take m, leadsW z = true → agW G.mark z ≤ agW G.mark x) ∧ Below w6.heap.size w6 wr) (fun i _ => L - (intOf i).toNat)
      case atStart => exact ⟨0, rfl, Nat.zero_le _, by simp, Below.refl _ _⟩
      case round =>
        obtain ⟨m, rfl, hm, hall, hbe⟩ := hrel
        have HALL2 : Hid (∀ z ∈ zs.take m, leadsW z = true → agW G.mark z ≤ agW G.mark x) := hall
        have HBE : Hid (Below w.heap.size w wr ∧ Below W.heap.size W wr ∧ Below w6.heap.size w6 wr) := ⟨HB6.out.1.trans (hbe.mono HB6.out.1.size), HB6.out.2.trans (hbe.mono HB6.out.2.size), hbe⟩
        have e0 : w6.cell? ⟨X, 0, none⟩ = some (.slice G.wv G.N G.cap) := hg6 0
        have e1 : w6.cell? ⟨X, 1, none⟩ = some (.slice G.yv G.M G.ycap) := hg6 1
        have e2 : w6.cell? ⟨X, 2, none⟩ = some (.int .i64 G.mark) := hg6 2
        have e3 : w6.cell? ⟨Y, 0, none⟩ = some (.int .i64 x) := bx 0
        have d0 := (hbe.cell (p := ⟨X, 0, none⟩) (World.block_lt_of_cell? _ _ e0)).trans e0
        have d1 := (hbe.cell (p := ⟨X, 1, none⟩) (World.block_lt_of_cell? _ _ e1)).trans e1
        have d2 := (hbe.cell (p := ⟨X, 2, none⟩) (World.block_lt_of_cell? _ _ e2)).trans e2
        have d3 := (hbe.cell (p := ⟨Y, 0, none⟩) (World.block_lt_of_cell? _ _ e3)).trans e3
        clear hall hbe e0 e1 e2 e3
        by_cases hmt : m < L
        case neg =>
          have hlti2 : ¬ (m : Int) < (L : Int) := by omega
          go_wp2_with fail
          go_roundw
          case rel =>
            refine ⟨j + 1, rfl, by omega, ?_, HBE.out.2.1⟩
            rw [HT.out]
            refine all_snoc HALL.out (HEO.out.2 ?_)
            have h := HALL2.out
            rw [List.take_of_length_le (by have := HPL.out; omega)] at h
            exact h
          case measure => simp [intOf]; omega
        case pos =>
          have hlti2 : (m : Int) < (L : Int) := by omega
          have hml : m < zs.length := by have := HPL.out; omega
          obtain ⟨rb, ro, ha6, hcz⟩ := HRT.out (by omega)
          subst ha6
          have hz0 := hcz m hml
          obtain ⟨z, hz⟩ : ∃ z, zs[m] = z := ⟨_, rfl⟩
          have HTZ : Hid (zs.take (m + 1) = zs.take m ++ [z] ∧ z ∈ zs) := ⟨by rw [take_snoc hml, hz], by rw [← hz]; exact List.getElem_mem hml⟩
          rw [hz] at hz0
          have hz1 := (HBE.out.1.cell (p := ⟨rb, ro + m, none⟩) (World.block_lt_of_cell? _ _ hz0)).trans hz0
          have HZ : Hid (z ≤ 9223372036854775807 ∧ x ≤ 9223372036854775807) := ⟨HZB.out z HTZ.out.2, HTO.out.big⟩
          clear hcz hz0 hz
          have k0 := Inn.keep d0
          have k1 := Inn.keep d1
          have k2 := Inn.keep d2
          have k3 := Inn.keep d3
          haveI := inn_ne wr
          have HAA : Hid (∀ u : Int, u = z ∨ u = x → ∀ y : Inn wr, Calls Tryz.prog 76 #[.agg #[.slice G.wv G.N G.cap, .slice G.yv G.M G.ycap, .int .i64 G.mark], .int .i64 u] y.val fun e w' => e = .returned (.int .i64 (agW G.mark u : Nat)) ∧ Below y.val.heap.size y.val w') := fun u hu y => implAge_any G u (by rcases hu with rfl | rfl; exact HZ.out.1; exact HZ.out.2) y.val
          cases hld : leadsW z with
          | false =>
            have HLE : Hid (∀ y : Inn wr, Calls Tryz.prog 75 #[.int .i64 z] y.val fun e w' => e = .returned (.bool false) ∧ w' = y.val) := fun y => by rw [← hld]; exact implLeads_any z HZ.out.1 y.val
            have HLD : Hid (leadsW z = false) := hld
            clear hld
            go_wp2_with fail
            refine wp_region_inn ?_ ?_ ?_
            · kernel_rfl
            · kernel_rfl
            repeat (go_big_quiet_step (first
              | (go_at_call 75; exact calls_inn_same (HLE.out _))))
            refine wpQuiet_nil ?_
            rintro w1 ⟨y1, h1⟩
            have hb1 : Below wr.heap.size wr w1 := by rw [h1]; exact y1.bel
            have HB1 : Hid (Below w6.heap.size w6 w1) := HBE.out.2.2.trans (hb1.mono HBE.out.2.2.size)
            clear h1 hb1 y1 k0 k1 k2 k3 HAA HLE d0 d1 d2 d3 hz1
            go_wp2_with fail
            go_roundw
            case rel =>
              refine ⟨m + 1, rfl, by omega, ?_, HB1.out⟩
              rw [HTZ.out.1]
              exact all_snoc HALL2.out (fun h => by rw [HLD.out] at h; cases h)
            case measure => simp [intOf]; omega
          | true =>
            have HLE : Hid (∀ y : Inn wr, Calls Tryz.prog 75 #[.int .i64 z] y.val fun e w' => e = .returned (.bool true) ∧ w' = y.val) := fun y => by rw [← hld]; exact implLeads_any z HZ.out.1 y.val
            have HLD : Hid (leadsW z = true) := hld
            clear hld
            go_wp2_with fail
            refine wp_region_inn ?_ ?_ ?_
            · kernel_rfl
            · kernel_rfl
            repeat (go_big_quiet_step (first
              | (go_at_call 75; exact calls_inn_same (HLE.out _))
              | (go_at_call 76; exact calls_inn (HAA.out _ (by first | exact Or.inl rfl | exact Or.inr rfl) _))))
            refine wpQuiet_nil ?_
            rintro w1 ⟨y1, h1⟩
            have hb1 : Below wr.heap.size wr w1 := by rw [h1]; exact y1.bel
            have HB1 : Hid (Below w6.heap.size w6 w1) := HBE.out.2.2.trans (hb1.mono HBE.out.2.2.size)
            have HB2 : Hid (Below w.heap.size w w1) := HBE.out.1.trans (hb1.mono HBE.out.1.size)
            clear h1 hb1 y1 k0 k1 k2 k3 HAA HLE d0 d1 d2 d3 hz1
            by_cases hag : agW G.mark z ≤ agW G.mark x
            · have HAG : Hid (agW G.mark z ≤ agW G.mark x) := hag
              have hag2 : ¬ (agW G.mark x : Int) < (agW G.mark z : Int) := by omega
              clear hag
              go_wp2_with fail
              go_roundw
              case rel =>
                refine ⟨m + 1, rfl, by omega, ?_, HB1.out⟩
                rw [HTZ.out.1]
                exact all_snoc HALL2.out (fun h => HAG.out)
              case measure => simp [intOf]; omega
            · have HAG : Hid (¬ agW G.mark z ≤ agW G.mark x) := hag
              have hag2 : (agW G.mark x : Int) < (agW G.mark z : Int) := by omega
              clear hag
              go_wp2_with fail
              go_ret
              exact ⟨false, rfl, ⟨fun h => (by cases h), fun h => absurd ((HEO.out.1 (h _ HMEM.out)) z HTZ.out.2 HLD.out) HAG.out⟩, HB2.out⟩
end Go.Proofs.YtjjmikfbongccaaGreatDoor.Gn

namespace Go.Proofs.YtjjmikfbongccaaGreatDoor.Gn
open Go.RowKit Go.Maps
set_option linter.unusedVariables false

theorem below3 (w : World) (o : Obj) : Below w.heap.size w (w.alloc o) := (Below.refl _ _).alloc (Nat.le_refl _) o
def lstB (G : GE) : Bool := decide (G.N ≤ 1000) && decide (G.M ≤ 1000)
def szB (G : GE) : Bool := lstB G && (decide (0 ≤ G.mark) && decide (G.mark ≤ (G.M : Int)))
set_option maxHeartbeats 1000000 in
set_option maxRecDepth 100000 in
theorem lists_any (G : GE) (w : World) (hN : G.N ≤ 1048576) (hM : G.M ≤ 1048576) : Calls Tryz.prog 68 #[G.v] w fun e w' => e = .returned (.bool (lstB G)) ∧ Below w.heap.size w w' := by
  have HB : Hid (∀ o, Below w.heap.size w (w.alloc o)) := below3 w
  by_cases h1 : G.N ≤ 1000
  · have hd : decide ((G.N : Int) ≤ 1000) = true := by simp; omega
    by_cases h2 : G.M ≤ 1000
    · have hd2 : decide ((G.M : Int) ≤ 1000) = true := by simp; omega
      have HE : Hid (lstB G = true) := by show _ = _; simp [lstB, h1, h2]
      clear h1 h2
      go_enter Tryz.func68, Tryz.ntmps68
      go_wp2_with fail
      go_ret
      exact ⟨ret_bool HE.out.symm, HB.out _⟩
    · have hd2 : decide ((G.M : Int) ≤ 1000) = false := by simp; omega
      have HE : Hid (lstB G = false) := by show _ = _; simp [lstB, h2]
      clear h1 h2
      go_enter Tryz.func68, Tryz.ntmps68
      go_wp2_with fail
      go_ret
      exact ⟨ret_bool HE.out.symm, HB.out _⟩
  · have hd : decide ((G.N : Int) ≤ 1000) = false := by simp; omega
    have HE : Hid (lstB G = false) := by show _ = _; simp [lstB, h1]
    clear h1
    go_enter Tryz.func68, Tryz.ntmps68
    go_wp2_with fail
    go_ret
    exact ⟨ret_bool HE.out.symm, HB.out _⟩
set_option maxHeartbeats 2000000 in
set_option maxRecDepth 100000 in
theorem sizes_any (G : GE) (w : World) (hN : G.N ≤ 1048576) (hM : G.M ≤ 1048576) : Calls Tryz.prog 53 #[G.v] w fun e w' => e = .returned (.bool (szB G)) ∧ Below w.heap.size w w' := by
  have q0 : ∀ o, (w.alloc (.cells #[.slice G.wv G.N G.cap, .slice G.yv G.M G.ycap, .int .i64 G.mark] 38)).cell? ⟨w.heap.size, o, none⟩ = (#[.slice G.wv G.N G.cap, .slice G.yv G.M G.ycap, .int .i64 G.mark] : Array Value)[o]? := fun o => World.cell?_alloc_new w _ _ o
  have HB : Hid (Below w.heap.size w (w.alloc (.cells #[.slice G.wv G.N G.cap, .slice G.yv G.M G.ycap, .int .i64 G.mark] 38))) := below3 w _
  have HL : Hid (∀ w1, Calls Tryz.prog 68 #[.agg #[.slice G.wv G.N G.cap, .slice G.yv G.M G.ycap, .int .i64 G.mark]] w1 fun e w' => e = .returned (.bool (lstB G)) ∧ Below w1.heap.size w1 w') := fun w1 => lists_any G w1 hN hM
  cases hl : lstB G with
  | false =>
    have HLB : Hid (lstB G = false) := hl
    have HE : Hid (szB G = false) := by show _ = _; simp [szB, hl]
    clear hl
    go_enter Tryz.func53, Tryz.ntmps53
    go_wp2_with (go_at_call 68; refine (HL.out _).mono ?_; rintro e w2 ⟨rfl, hb2⟩; rw [HLB.out]; have HB2 : Hid (Below w.heap.size w w2) := HB.out.trans (hb2.mono HB.out.size); clear hb2)
    go_ret
    exact ⟨ret_bool HE.out.symm, HB2.out⟩
  | true =>
    have HLB : Hid (lstB G = true) := hl
    have HE : Hid (szB G = (decide (0 ≤ G.mark) && decide (G.mark ≤ (G.M : Int)))) := by show _ = _; simp [szB, hl]
    clear hl
    by_cases h1 : 0 ≤ G.mark
    · by_cases h2 : G.mark ≤ (G.M : Int)
      · have HE2 : Hid (szB G = true) := by show _ = _; rw [HE.out]; simp [h1, h2]
        go_enter Tryz.func53, Tryz.ntmps53
        go_wp2_with (go_at_call 68; refine (HL.out _).mono ?_; rintro e w2 ⟨rfl, hb2⟩; rw [HLB.out]; have q2 := keep3 hb2 q0; have HB2 : Hid (Below w.heap.size w w2) := HB.out.trans (hb2.mono HB.out.size); clear hb2)
        go_ret
        exact ⟨ret_bool HE2.out.symm, HB2.out⟩
      · have HE2 : Hid (decide (G.mark ≤ (G.M : Int)) = szB G) := by show _ = _; rw [HE.out]; simp [h1]
        go_enter Tryz.func53, Tryz.ntmps53
        go_wp2_with (go_at_call 68; refine (HL.out _).mono ?_; rintro e w2 ⟨rfl, hb2⟩; rw [HLB.out]; have q2 := keep3 hb2 q0; have HB2 : Hid (Below w.heap.size w w2) := HB.out.trans (hb2.mono HB.out.size); clear hb2)
        go_ret
        exact ⟨ret_bool HE2.out, HB2.out⟩
    · have HE2 : Hid (szB G = false) := by show _ = _; rw [HE.out]; simp [h1]
      go_enter Tryz.func53, Tryz.ntmps53
      go_wp2_with (go_at_call 68; refine (HL.out _).mono ?_; rintro e w2 ⟨rfl, hb2⟩; rw [HLB.out]; have q2 := keep3 hb2 q0; have HB2 : Hid (Below w.heap.size w w2) := HB.out.trans (hb2.mono HB.out.size); clear hb2)
      go_ret
      exact ⟨ret_bool HE2.out.symm, HB2.out⟩
/-- What is asked of two generations. -/
def gensP (G : GE) (R : List Int) : Prop := szB G = true ∧ atomsB G.A = true ∧ allB G.H R = true ∧ ∀ x ∈ R, ∀ y, Rch G.H x y → leadsW y = true → Eok G.H G.mark y
def GoP (G : GE) (R : List Int) (w : World) (e : Ending) (w' : World) : Prop := ∃ r : Bool, e = .returned (.bool r) ∧ (r = true ↔ gensP G R) ∧ Below w.heap.size w w'
theorem gensP_sz {G : GE} {R : List Int} (h : szB G = false) : ¬ gensP G R := fun k => by have := k.1; rw [h] at this; cases this
theorem gensP_at {G : GE} {R : List Int} (h : atomsB G.A = false) : ¬ gensP G R := fun k => by have := k.2.1; rw [h] at this; cases this
theorem gensP_all {G : GE} {R : List Int} (h : allB G.H R = false) : ¬ gensP G R := fun k => by have := k.2.2.1; rw [h] at this; cases this
theorem sz_lt {G : GE} (h : szB G = true) : G.N ≤ 1000 ∧ G.M ≤ 1000 ∧ 0 ≤ G.mark ∧ G.mark ≤ (G.M : Int) := by
  simp only [szB, lstB, Bool.and_eq_true, decide_eq_true_eq] at h
  exact ⟨h.1.1, h.1.2, h.2.1, h.2.2⟩
/-- What reads has an end. -/
theorem all_fin {G : GE} {R : List Int} (h : allB G.H R = true) : ∀ x ∈ R, FinW G.H 612 x := fun x hx => by
  unfold allB at h
  rw [List.all_eq_true] at h
  have h1 := h x hx
  unfold readT at h1
  cases h2 : rT true G.H 6 x 100 with
  | none => rw [h2] at h1; cases h1
  | some p => exact fin_read 6 x 100 p.1 p.2 (Nat.le_refl _) h2
theorem gensP_iff {G : GE} {R : List Int} {ths : List Th} {r : Bool} (h1 : szB G = true) (h2 : atomsB G.A = true) (h3 : allB G.H R = true) (hm : Met G.H R (ths.map Th.x)) (h : r = true ↔ ∀ t ∈ ths, Eok G.H G.mark t.x) : r = true ↔ gensP G R := by
  have e : (∀ t ∈ ths, Eok G.H G.mark t.x) ↔ ∀ y ∈ ths.map Th.x, Eok G.H G.mark y := by simp
  rw [h, e, hm.iff]
  exact ⟨fun k => ⟨h1, h2, h3, k⟩, fun k => k.2.2.2⟩
theorem thCells_at (G : GE) : ∀ (l : List Th) (j : Nat) (h : j < l.length), (thCells G l)[j * 2]? = some (.int .i64 l[j].x) ∧ (thCells G l)[j * 2 + 1]? = some (.slice (some ⟨G.sb l[j].p, G.so l[j].p, none⟩) l[j].K l[j].c)
  | [], j, h => absurd h (Nat.not_lt_zero _)
  | t :: r, 0, h => ⟨rfl, rfl⟩
  | t :: r, j + 1, h => by
    have := thCells_at G r j (by simpa using h)
    have e : thCells G (t :: r) = .int .i64 t.x :: .slice (some ⟨G.sb t.p, G.so t.p, none⟩) t.K t.c :: thCells G r := rfl
    rw [e, show (j + 1) * 2 = j * 2 + 1 + 1 by omega]
    exact this
theorem lsv_of {G : GE} {w : World} {base : Nat} {ths : List Th} {lv : Value} (h : w.ownsRow base 112 2 lv ths.length (thCells G ths)) : ∃ a c, lv = .slice a ths.length c ∧ Lsv G w ths a := by
  rcases h.2 with ⟨h0, h1⟩ | ⟨g, cap, cur, hv, hb, hh, h1, h2, h3, h4⟩
  · exact ⟨none, 0, by rw [h0, h1], fun hn => absurd h1 hn⟩
  · refine ⟨_, cap, hv, fun _ => ⟨g, rfl, fun j hj => ?_⟩⟩
    obtain ⟨e1, e2⟩ := thCells_at G ths j hj
    have hc : ∀ k v, k < ths.length * 2 → (thCells G ths)[k]? = some v → w.cell? ⟨g, k, none⟩ = some v := fun k v hk he => by
      rw [← h4, List.getElem?_take, if_pos hk, Array.getElem?_toList] at he
      rw [cell_of_row w g k cur _ _ hh]; exact he
    exact ⟨hc _ _ (by omega) e1, hc _ _ (by omega) e2⟩
end Go.Proofs.YtjjmikfbongccaaGreatDoor.Gn

namespace Go.Proofs.YtjjmikfbongccaaGreatDoor.Gn
open Go.RowKit Go.Maps
set_option linter.unusedVariables false

set_option maxHeartbeats 8000000 in
set_option maxRecDepth 100000 in
theorem implGensOk_any {G : GE} {w : World} (hs : GSrc G w) (R : List Int) (rv : Option Addr) (rcap : Nat) (hr : Roots w rv R) (hR : R.length ≤ 1048576) (hb : ∀ x ∈ R, x ≤ 9223372036854775807) :
    Calls Tryz.prog 36 #[.agg #[.slice G.wv G.N G.cap, .slice G.yv G.M G.ycap, .int .i64 G.mark], .slice G.av G.A.length G.acap, .slice rv R.length rcap] w (GoP G R w) := by
  have HS : Hid (GSrc G w) := hs
  have q0 : ∀ o, (w.alloc (.cells #[.slice G.wv G.N G.cap, .slice G.yv G.M G.ycap, .int .i64 G.mark] 38)).cell? ⟨w.heap.size, o, none⟩ = (#[.slice G.wv G.N G.cap, .slice G.yv G.M G.ycap, .int .i64 G.mark] : Array Value)[o]? := fun o => World.cell?_alloc_new w _ _ o
  have HB : Hid (Below w.heap.size w (w.alloc (.cells #[.slice G.wv G.N G.cap, .slice G.yv G.M G.ycap, .int .i64 G.mark] 38))) := below3 w _
  have HSI : Hid (∀ w1, Calls Tryz.prog 53 #[.agg #[.slice G.wv G.N G.cap, .slice G.yv G.M G.ycap, .int .i64 G.mark]] w1 fun e w' => e = .returned (.bool (szB G)) ∧ Below w1.heap.size w1 w') := fun w1 => sizes_any G w1 hs.n hs.m
  have HAT : Hid (∀ w', Below w.heap.size w w' → Calls Tryz.prog 54 #[.slice G.av G.A.length G.acap] w' fun e w'' => e = .returned (.bool (atomsB G.A)) ∧ Below w'.heap.size w' w'') := fun w' hb' => by
    have s := hs.below hb'
    exact implAtoms_any G.ab G.ao G.acap G.av G.A w' s.al s.ats s.a (big_txt s.txt)
  have HAR : Hid (∀ w', Below w.heap.size w w' → Calls Tryz.prog 55 #[.func (.func 72) #[] #[.pointer (some ⟨w'.heap.size, 0, none⟩)], .slice G.av G.A.length G.acap, .slice rv R.length rcap] (w'.alloc (.cells #[.slice G.wv G.N G.cap, .slice G.yv G.M G.ycap, .int .i64 G.mark] 38)) fun e w'' => e = .returned (.bool (allB G.H R)) ∧ Below (w'.alloc (.cells #[.slice G.wv G.N G.cap, .slice G.yv G.M G.ycap, .int .i64 G.mark] 38)).heap.size (w'.alloc (.cells #[.slice G.wv G.N G.cap, .slice G.yv G.M G.ycap, .int .i64 G.mark] 38)) w'') := fun w' hb' => by
    have hb2 : Below w.heap.size w (w'.alloc (.cells #[.slice G.wv G.N G.cap, .slice G.yv G.M G.ycap, .int .i64 G.mark] 38)) := hb'.alloc hb'.size _
    exact allRead_any (ofGens G (w'.alloc (.cells #[.slice G.wv G.N G.cap, .slice G.yv G.M G.ycap, .int .i64 G.mark] 38)) w'.heap.size) _ rfl (ofGens_src (hs.below hb2) (World.cell?_alloc_new w' _ _ 0) (World.cell?_alloc_new w' _ _ 1)) rv rcap R (hr.below hb2) hR hb
  cases hz : szB G with
  | false =>
    have HSZ : Hid (szB G = false) := hz
    clear hz hs hr hR hb
    go_enter Tryz.func36, Tryz.ntmps36
    go_wp2_with fail
    generalize w.alloc (.cells #[.slice G.wv G.N G.cap, .slice G.yv G.M G.ycap, .int .i64 G.mark] 38) = W at HB q0 ⊢
    generalize w.heap.size = X at q0 ⊢
    have p0 : W.cell? ⟨X, 0, none⟩ = some (.slice G.wv G.N G.cap) := q0 0
    have p1 : W.cell? ⟨X, 1, none⟩ = some (.slice G.yv G.M G.ycap) := q0 1
    have p2 : W.cell? ⟨X, 2, none⟩ = some (.int .i64 G.mark) := q0 2
    have k0 := Inn.keep p0
    have k1 := Inn.keep p1
    have k2 := Inn.keep p2
    haveI := inn_ne W
    have HS1 : Hid (∀ y : Inn W, Calls Tryz.prog 53 #[.agg #[.slice G.wv G.N G.cap, .slice G.yv G.M G.ycap, .int .i64 G.mark]] y.val fun e w' => e = .returned (.bool false) ∧ Below y.val.heap.size y.val w') := fun y => by have := HSI.out y.val; rw [HSZ.out] at this; exact this
    clear q0
    refine wp_region_inn ?_ ?_ ?_
    · kernel_rfl
    · kernel_rfl
    repeat (go_big_quiet_step (first
      | (go_at_call 53; exact calls_inn (HS1.out _))))
    refine wpQuiet_nil ?_
    rintro w1 ⟨y1, h1⟩
    have hb1 : Below W.heap.size W w1 := by rw [h1]; exact y1.bel
    have HB1 : Hid (Below w.heap.size w w1) := HB.out.trans (hb1.mono HB.out.size)
    clear h1 hb1 y1 k0 k1 k2 p0 p1 p2 HS1
    go_wp2_with fail
    go_ret
    exact ⟨false, rfl, ⟨fun h => (by cases h), fun h => absurd h (gensP_sz HSZ.out)⟩, HB1.out⟩
  | true =>
    have HSZ : Hid (szB G = true) := hz
    cases ha : atomsB G.A with
    | false =>
      have HA : Hid (atomsB G.A = false) := ha
      clear hz ha hs hr hR hb
      go_enter Tryz.func36, Tryz.ntmps36
      go_wp2_with fail
      generalize w.alloc (.cells #[.slice G.wv G.N G.cap, .slice G.yv G.M G.ycap, .int .i64 G.mark] 38) = W at HB q0 ⊢
      generalize w.heap.size = X at q0 ⊢
      have p0 : W.cell? ⟨X, 0, none⟩ = some (.slice G.wv G.N G.cap) := q0 0
      have p1 : W.cell? ⟨X, 1, none⟩ = some (.slice G.yv G.M G.ycap) := q0 1
      have p2 : W.cell? ⟨X, 2, none⟩ = some (.int .i64 G.mark) := q0 2
      have k0 := Inn.keep p0
      have k1 := Inn.keep p1
      have k2 := Inn.keep p2
      haveI := inn_ne W
      have HS1 : Hid (∀ y : Inn W, Calls Tryz.prog 53 #[.agg #[.slice G.wv G.N G.cap, .slice G.yv G.M G.ycap, .int .i64 G.mark]] y.val fun e w' => e = .returned (.bool true) ∧ Below y.val.heap.size y.val w') := fun y => by have := HSI.out y.val; rw [HSZ.out] at this; exact this
      have HA1 : Hid (∀ y : Inn W, Calls Tryz.prog 54 #[.slice G.av G.A.length G.acap] y.val fun e w' => e = .returned (.bool false) ∧ Below y.val.heap.size y.val w') := fun y => by have := HAT.out y.val (HB.out.trans (y.bel.mono HB.out.size)); rw [HA.out] at this; exact this
      clear q0
      refine wp_region_inn ?_ ?_ ?_
      · kernel_rfl
      · kernel_rfl
      repeat (go_big_quiet_step (first
        | (go_at_call 53; exact calls_inn (HS1.out _))
        | (go_at_call 54; exact calls_inn (HA1.out _))))
      refine wpQuiet_nil ?_
      rintro w1 ⟨y1, h1⟩
      have hb1 : Below W.heap.size W w1 := by rw [h1]; exact y1.bel
      have HB1 : Hid (Below w.heap.size w w1) := HB.out.trans (hb1.mono HB.out.size)
      clear h1 hb1 y1 k0 k1 k2 p0 p1 p2 HS1 HA1
      go_wp2_with fail
      go_ret
      exact ⟨false, rfl, ⟨fun h => (by cases h), fun h => absurd h (gensP_at HA.out)⟩, HB1.out⟩
    | true =>
      have HA : Hid (atomsB G.A = true) := ha
      cases hal : allB G.H R with
      | false =>
        have HAL : Hid (allB G.H R = false) := hal
        clear hz ha hal hs hr hR hb
        go_enter Tryz.func36, Tryz.ntmps36
        go_wp2_with fail
        generalize w.alloc (.cells #[.slice G.wv G.N G.cap, .slice G.yv G.M G.ycap, .int .i64 G.mark] 38) = W at HB q0 ⊢
        generalize w.heap.size = X at q0 ⊢
        have p0 : W.cell? ⟨X, 0, none⟩ = some (.slice G.wv G.N G.cap) := q0 0
        have p1 : W.cell? ⟨X, 1, none⟩ = some (.slice G.yv G.M G.ycap) := q0 1
        have p2 : W.cell? ⟨X, 2, none⟩ = some (.int .i64 G.mark) := q0 2
        have pd0 : W.drew.cell? ⟨X, 0, none⟩ = some (.slice G.wv G.N G.cap) := p0
        have pd1 : W.drew.cell? ⟨X, 1, none⟩ = some (.slice G.yv G.M G.ycap) := p1
        have pd2 : W.drew.cell? ⟨X, 2, none⟩ = some (.int .i64 G.mark) := p2
        have HBD : Hid (Below w.heap.size w W.drew) := HB.out.drew
        clear q0
        first
        | go_region_law (go_simp; go_wp2_with (first
            | (go_at_call 53; refine (HSI.out _).mono ?_; rintro e w2 ⟨rfl, hb2⟩; rw [HSZ.out]; have HB2 : Hid (Below w.heap.size w w2) := HBD.out.trans (hb2.mono HBD.out.size); have q20 := keep0 hb2 pd0; have q21 := keep0 hb2 pd1; have q22 := keep0 hb2 pd2; clear hb2)
            | (go_at_call 54; refine (HAT.out _ HB2.out).mono ?_; rintro e w3 ⟨rfl, hb3⟩; rw [HA.out]; have q30 := keep0 hb3 q20; have q31 := keep0 hb3 q21; have q32 := keep0 hb3 q22; have HB3 : Hid (Below w.heap.size w w3) := HB2.out.trans (hb3.mono HB2.out.size); clear hb3)
            | (go_at_call 56; refine (gensFrom_any _ _ _ _ _ _ _ _).mono ?_; rintro e w4 ⟨rfl, hw4⟩; obtain rfl := hw4.symm; have q40 := keep0 (below3 w3 (.cells #[.slice G.wv G.N G.cap, .slice G.yv G.M G.ycap, .int .i64 G.mark] 38)) q30; have q41 := keep0 (below3 w3 (.cells #[.slice G.wv G.N G.cap, .slice G.yv G.M G.ycap, .int .i64 G.mark] 38)) q31; have q42 := keep0 (below3 w3 (.cells #[.slice G.wv G.N G.cap, .slice G.yv G.M G.ycap, .int .i64 G.mark] 38)) q32)
            | (go_at_call 55; refine (HAR.out _ HB3.out).mono ?_; rintro e w5 ⟨rfl, hb5⟩; rw [HAL.out]; have q50 := keep0 hb5 q40; have q51 := keep0 hb5 q41; have q52 := keep0 hb5 q42; have HB5 : Hid (Below w.heap.size w w5) := (HB3.out.alloc HB3.out.size _).trans (hb5.mono (HB3.out.alloc HB3.out.size _).size); clear hb5)))
        | fail
        all_goals (
          go_wp2_with fail
          go_ret
          exact ⟨false, rfl, ⟨fun h => (by cases h), fun h => absurd h (gensP_all HAL.out)⟩, HB5.out⟩)
      | true =>
        have HAL : Hid (allB G.H R = true) := hal
        have HTH : Hid (∀ w', Below w.heap.size w w' → Calls Tryz.prog 58 #[.agg #[.slice G.wv G.N G.cap, .slice G.yv G.M G.ycap, .int .i64 G.mark], .slice rv R.length rcap] w' (ThsP G w' R)) := fun w' hb' => things_any (hs.below hb') (sz_lt hz).1 (sz_lt hz).2.1 R rv rcap 612 (hr.below hb') hR (all_fin hal) hb
        clear hz ha hal hs hr hR hb
        go_enter Tryz.func36, Tryz.ntmps36
        go_wp2_with fail
        generalize w.alloc (.cells #[.slice G.wv G.N G.cap, .slice G.yv G.M G.ycap, .int .i64 G.mark] 38) = W at HB q0 ⊢
        generalize w.heap.size = X at q0 ⊢
        have p0 : W.cell? ⟨X, 0, none⟩ = some (.slice G.wv G.N G.cap) := q0 0
        have p1 : W.cell? ⟨X, 1, none⟩ = some (.slice G.yv G.M G.ycap) := q0 1
        have p2 : W.cell? ⟨X, 2, none⟩ = some (.int .i64 G.mark) := q0 2
        have pd0 : W.drew.cell? ⟨X, 0, none⟩ = some (.slice G.wv G.N G.cap) := p0
        have pd1 : W.drew.cell? ⟨X, 1, none⟩ = some (.slice G.yv G.M G.ycap) := p1
        have pd2 : W.drew.cell? ⟨X, 2, none⟩ = some (.int .i64 G.mark) := p2
        have HBD : Hid (Below w.heap.size w W.drew) := HB.out.drew
        clear q0
        first
        | go_region_held3 (fun w' => w'.cell? ⟨X, 0, none⟩ = some (.slice G.wv G.N G.cap) ∧ w'.cell? ⟨X, 1, none⟩ = some (.slice G.yv G.M G.ycap) ∧ w'.cell? ⟨X, 2, none⟩ = some (.int .i64 G.mark)) (first | (refine ⟨?_, ?_, ?_⟩ <;> assumption) | go_keep)
          (first
            | (go_at_call 53; refine (HSI.out _).mono ?_; rintro e w2 ⟨rfl, hb2⟩; rw [HSZ.out]; have HB2 : Hid (Below w.heap.size w w2) := HBD.out.trans (hb2.mono HBD.out.size); have q20 := keep0 hb2 pd0; have q21 := keep0 hb2 pd1; have q22 := keep0 hb2 pd2; clear hb2)
            | (go_at_call 54; refine (HAT.out _ HB2.out).mono ?_; rintro e w3 ⟨rfl, hb3⟩; rw [HA.out]; have q30 := keep0 hb3 q20; have q31 := keep0 hb3 q21; have q32 := keep0 hb3 q22; have HB3 : Hid (Below w.heap.size w w3) := HB2.out.trans (hb3.mono HB2.out.size); clear hb3)
            | (go_at_call 56; refine (gensFrom_any _ _ _ _ _ _ _ _).mono ?_; rintro e w4 ⟨rfl, hw4⟩; obtain rfl := hw4.symm; have q40 := keep0 (below3 w3 (.cells #[.slice G.wv G.N G.cap, .slice G.yv G.M G.ycap, .int .i64 G.mark] 38)) q30; have q41 := keep0 (below3 w3 (.cells #[.slice G.wv G.N G.cap, .slice G.yv G.M G.ycap, .int .i64 G.mark] 38)) q31; have q42 := keep0 (below3 w3 (.cells #[.slice G.wv G.N G.cap, .slice G.yv G.M G.ycap, .int .i64 G.mark] 38)) q32)
            | (go_at_call 55; refine (HAR.out _ HB3.out).mono ?_; rintro e w5 ⟨rfl, hb5⟩; rw [HAL.out]; have q50 := keep0 hb5 q40; have q51 := keep0 hb5 q41; have q52 := keep0 hb5 q42; have HB5 : Hid (Below w.heap.size w w5) := (HB3.out.alloc HB3.out.size _).trans (hb5.mono (HB3.out.alloc HB3.out.size _).size); clear hb5)
            | (go_at_call 58; refine (HTH.out _ HB5.out).mono ?_; rintro e w6 ⟨ths, lv, rfl, hth⟩; obtain ⟨a6, c6, rfl, hlv⟩ := lsv_of hth.row; have q60 := keep0 hth.be q50; have q61 := keep0 hth.be q51; have q62 := keep0 hth.be q52; have HTP : Hid (ThP G w5 R ths (.slice a6 ths.length c6) w6 ∧ Lsv G w6 ths a6) := ⟨hth, hlv⟩; have HB6 : Hid (Below w.heap.size w w6) := HB5.out.trans (hth.be.mono HB5.out.size); clear hth hlv)
            | (go_at_call 57; refine (ages_any (HS.out.below HB6.out) ths HTP.out.1.ok HTP.out.1.few a6 c6 HTP.out.2).mono ?_; rintro e w7 ⟨r, rfl, hr7, hb7⟩; have q70 := keep0 hb7 q60; have q71 := keep0 hb7 q61; have q72 := keep0 hb7 q62; have HB7 : Hid (Below w.heap.size w w7) := HB6.out.trans (hb7.mono HB6.out.size); have HR7 : Hid (r = true ↔ ∀ t ∈ ths, Eok G.H G.mark t.x) := hr7; clear hr7 hb7))
        | fail
        all_goals (
          go_wp2_with fail
          go_ret
          exact ⟨r, rfl, gensP_iff HSZ.out HA.out HAL.out HTP.out.1.met HR7.out, HB7.out⟩)
end Go.Proofs.YtjjmikfbongccaaGreatDoor.Gn
namespace Go.Proofs.YtjjmikfbongccaaGreatDoor.Gn
open Go.RowKit Go.Maps
set_option linter.unusedVariables false

theorem keep4m {wr w5 : World} {a b c d : Value} {t : TypeId} (hb : Below (wr.alloc (.cells #[a, b, c, d] t)).drew.heap.size (wr.alloc (.cells #[a, b, c, d] t)).drew w5) :
    (∀ o, w5.cell? ⟨wr.heap.size, o, none⟩ = (#[a, b, c, d] : Array Value)[o]?) ∧ (∀ o, w5.frozen? ⟨wr.heap.size, o, none⟩ = false) := by
  have hs : (wr.alloc (.cells #[a, b, c, d] t)).drew.heap.size = wr.heap.size + 1 := World.size_alloc _ _
  refine ⟨fun o => ?_, fun o => ?_⟩
  · rw [hb.cell (p := ⟨wr.heap.size, o, none⟩) (by show wr.heap.size < _; omega)]
    exact World.cell?_alloc_new wr _ _ o
  · rw [hb.frozen (p := ⟨wr.heap.size, o, none⟩) (by show wr.heap.size < _; omega)]
    exact World.frozen?_alloc_new wr _ _ o
theorem below_set4m {w3 wr w5 : World} (h : Below w3.heap.size w3 w5) (hr : w3.heap.size ≤ wr.heap.size) (a b c d : Value) :
    Below w3.heap.size w3 ((((w5.setCell ⟨wr.heap.size, 0, none⟩ a).setCell ⟨wr.heap.size, 1, none⟩ b).setCell ⟨wr.heap.size, 2, none⟩ c).setCell ⟨wr.heap.size, 3, none⟩ d) :=
  (((h.setCell hr _).setCell hr _).setCell hr _).setCell hr _
def rootP (G : GE) (x : Int) : Prop := (readT G.H x).isSome = true ∧ ∀ y, Rch G.H x y → leadsW y = true → Eok G.H G.mark y
theorem gensP_of {G : GE} {R : List Int} (h1 : szB G = true) (h2 : atomsB G.A = true) : gensP G R ↔ ∀ x ∈ R, rootP G x := by
  unfold gensP allB rootP
  rw [List.all_eq_true]
  exact ⟨fun h x hx => ⟨h.2.2.1 x hx, h.2.2.2 x hx⟩, fun h => ⟨h1, h2, fun x hx => (h x hx).1, fun x hx => (h x hx).2⟩⟩
theorem root_fin {G : GE} {x : Int} (h : (readT G.H x).isSome = true) : FinW G.H 612 x := all_fin (R := [x]) (by unfold allB; simp [h]) x (by simp)
theorem lk_root {G : GE} (hs : szB G = true) {x : Int} (h : (readT G.H x).isSome = true) : lkB G.H G.mark 612 x 200000 = true ↔ rootP G x := by
  obtain ⟨h1, h2, h3, h4⟩ := sz_lt hs
  have k := lk_iff (H := G.H) h3 (by omega) (fun p hp => by
    have e : G.H.len p = G.len p := rfl
    rw [e] at hp
    unfold GE.len at hp
    split at hp <;> omega) 612 x 2 (root_fin h) (Nat.le_refl _)
  have e : limW G.mark 2 = 200000 := rfl
  rw [e] at k
  rw [k]
  have ag : agW G.mark x ≤ 2 := by unfold agW; split <;> (try split) <;> omega
  exact ⟨fun q => ⟨h, q.2⟩, fun q => ⟨fun _ => ag, q.2⟩⟩
theorem sz_of {G : GE} (h1 : G.N ≤ 1000) (h2 : G.M ≤ 1000) : szB G = inB G.mark 0 G.M := by
  simp [szB, lstB, h1, h2, inB]
set_option maxHeartbeats 8000000 in
set_option maxRecDepth 100000 in
theorem specGensOk_any {G : GE} {w : World} (hs : GSrc G w) (R : List Int) (rv : Option Addr) (rcap : Nat) (hr : Roots w rv R) (hR : R.length ≤ 1048576) (hb : ∀ x ∈ R, x ≤ 9223372036854775807) :
    Calls Tryz.prog 23 #[.agg #[.slice G.wv G.N G.cap, .slice G.yv G.M G.ycap, .int .i64 G.mark], .slice G.av G.A.length G.acap, .slice rv R.length rcap] w (GoP G R w) := by
  have HS : Hid (GSrc G w) := hs
  have HR : Hid (Roots w rv R) := hr
  have HBR : Hid (∀ x ∈ R, x ≤ 9223372036854775807) := hb
  have hN := hs.n
  have hM := hs.m
  have q0 : ∀ o, (w.alloc (.cells #[.slice G.wv G.N G.cap, .slice G.yv G.M G.ycap, .int .i64 G.mark] 38)).cell? ⟨w.heap.size, o, none⟩ = (#[.slice G.wv G.N G.cap, .slice G.yv G.M G.ycap, .int .i64 G.mark] : Array Value)[o]? := fun o => World.cell?_alloc_new w _ _ o
  have HB : Hid (Below w.heap.size w (w.alloc (.cells #[.slice G.wv G.N G.cap, .slice G.yv G.M G.ycap, .int .i64 G.mark] 38))) := below3 w _
  have HIN : Hid (∀ w1, Calls Tryz.prog 21 #[.int .i64 G.mark, .int .i64 0, .int .i64 G.M] w1 fun e w' => e = .returned (.bool (inB G.mark 0 G.M)) ∧ w' = w1) := fun w1 => in_any _ _ _ w1
  have HAT : Hid (∀ w', Below w.heap.size w w' → Calls Tryz.prog 32 #[.slice G.av G.A.length G.acap] w' fun e w'' => e = .returned (.bool (atomsB G.A)) ∧ w'' = w') := fun w' hb' => by
    have s := HS.out.below hb'
    exact specAtoms_any G.ab G.ao G.acap G.av G.A w' s.al s.ats s.a (big_txt s.txt)
  clear hs hr hb
  by_cases h1 : G.N ≤ 1000
  case neg =>
    have hd : decide ((1000 : Int) < (G.N : Int)) = true := by simp; omega
    have HNO : Hid (¬ gensP G R) := gensP_sz (by simp [szB, lstB, h1])
    clear h1
    go_enter Tryz.func23, Tryz.ntmps23
    go_wp2_with fail
    go_ret
    exact ⟨false, rfl, ⟨fun h => (by cases h), fun h => absurd h HNO.out⟩, HB.out⟩
  case pos =>
    have hd : decide ((1000 : Int) < (G.N : Int)) = false := by simp; omega
    by_cases h2 : G.M ≤ 1000
    case neg =>
      have hd2 : decide ((1000 : Int) < (G.M : Int)) = true := by simp; omega
      have HNO : Hid (¬ gensP G R) := gensP_sz (by simp [szB, lstB, h2])
      clear h1 h2
      go_enter Tryz.func23, Tryz.ntmps23
      go_wp2_with fail
      go_ret
      exact ⟨false, rfl, ⟨fun h => (by cases h), fun h => absurd h HNO.out⟩, HB.out⟩
    case pos =>
      have hd2 : decide ((1000 : Int) < (G.M : Int)) = false := by simp; omega
      have HSZ : Hid (szB G = inB G.mark 0 G.M) := sz_of h1 h2
      have HNM : Hid (G.N ≤ 1000 ∧ G.M ≤ 1000) := ⟨h1, h2⟩
      clear h1 h2
      cases hi : inB G.mark 0 G.M with
      | false =>
        have HI : Hid (inB G.mark 0 G.M = false) := hi
        have HNO : Hid (¬ gensP G R) := gensP_sz (by rw [HSZ.out, hi])
        clear hi
        go_enter Tryz.func23, Tryz.ntmps23
        go_wp2_with (first
          | (go_at_call 21; refine (HIN.out _).mono ?_; rintro e w' ⟨rfl, hw'⟩; obtain rfl := hw'.symm; rw [HI.out]))
        go_ret
        exact ⟨false, rfl, ⟨fun h => (by cases h), fun h => absurd h HNO.out⟩, HB.out⟩
      | true =>
        have HI : Hid (inB G.mark 0 G.M = true) := hi
        have HSB : Hid (szB G = true) := by show _ = _; rw [HSZ.out, hi]
        clear hi
        cases ha : atomsB G.A with
        | false =>
          have HA : Hid (atomsB G.A = false) := ha
          have HNO : Hid (¬ gensP G R) := gensP_at ha
          clear ha
          go_enter Tryz.func23, Tryz.ntmps23
          go_wp2_with (first
            | (go_at_call 21; refine (HIN.out _).mono ?_; rintro e w' ⟨rfl, hw'⟩; obtain rfl := hw'.symm; rw [HI.out])
            | (go_at_call 32; refine (HAT.out _ HB.out).mono ?_; rintro e w2 ⟨rfl, hw2⟩; obtain rfl := hw2.symm; rw [HA.out]))
          go_ret
          exact ⟨false, rfl, ⟨fun h => (by cases h), fun h => absurd h HNO.out⟩, HB.out⟩
        | true =>
          have HA : Hid (atomsB G.A = true) := ha
          have HGP : Hid (gensP G R ↔ ∀ x ∈ R, rootP G x) := gensP_of HSB.out ha
          have HLK : Hid (∀ (w' : World) (x : Int), GSrc G w' → x ≤ 9223372036854775807 → (readT G.H x).isSome = true → Calls Tryz.prog 34 #[.agg #[.slice G.wv G.N G.cap, .slice G.yv G.M G.ycap, .int .i64 G.mark], .int .i64 x, .int .i64 200000] w' fun e w'' => e = .returned (.bool (lkB G.H G.mark 612 x 200000)) ∧ Below w'.heap.size w' w'') := fun w' x hs' hx' hx2 => lkT_all G (sz_lt HSB.out).2.2.1 (by have := sz_lt HSB.out; omega) 612 x 200000 w' (root_fin hx2) hx' hs'
          clear ha
          go_enter Tryz.func23, Tryz.ntmps23
          go_wp2_with (first
            | (go_at_call 21; refine (HIN.out _).mono ?_; rintro e w' ⟨rfl, hw'⟩; obtain rfl := hw'.symm; rw [HI.out])
            | (go_at_call 32; refine (HAT.out _ HB.out).mono ?_; rintro e w2 ⟨rfl, hw2⟩; obtain rfl := hw2.symm; rw [HA.out]))
          generalize w.alloc (.cells #[.slice G.wv G.N G.cap, .slice G.yv G.M G.ycap, .int .i64 G.mark] 38) = W at HB q0 ⊢
          generalize w.heap.size = X at q0 ⊢
          have HQ0 : Hid (∀ o, W.cell? ⟨X, o, none⟩ = (#[.slice G.wv G.N G.cap, .slice G.yv G.M G.ycap, .int .i64 G.mark] : Array Value)[o]?) := q0
          go_loopw [7] (fun i wr => ∃ m : Nat, i = .int .i64 m ∧ m ≤ R.length ∧ (∀ x ∈ R.take m, rootP G x) ∧ Below W.heap.size W wr) (fun i _ => R.length - (intOf i).toNat)
          case atStart => exact ⟨0, rfl, Nat.zero_le _, by simp, Below.refl _ _⟩
          case round =>
            obtain ⟨m, rfl, hm, hall, hbe⟩ := hrel
            have c4 : ∀ o, wr.cell? ⟨X, o, none⟩ = (#[.slice G.wv G.N G.cap, .slice G.yv G.M G.ycap, .int .i64 G.mark] : Array Value)[o]? := keep3 hbe q0
            have HBW : Hid (Below w.heap.size w wr ∧ Below W.heap.size W wr) := ⟨HB.out.trans (hbe.mono HB.out.size), hbe⟩
            have HALL : Hid (∀ x ∈ R.take m, rootP G x) := hall
            clear hall hbe q0
            by_cases hlt : m < R.length
            case neg =>
              have hlti : ¬ (m : Int) < (R.length : Int) := by omega
              go_wp2_with fail
              go_ret
              refine ⟨true, rfl, ⟨fun _ => HGP.out.2 ?_, fun _ => rfl⟩, HBW.out.1⟩
              have h := HALL.out
              rw [List.take_of_length_le (by omega)] at h
              exact h
            case pos =>
              have hlti : (m : Int) < (R.length : Int) := by omega
              obtain ⟨rb, ro, hrv, hcs⟩ := HR.out (by omega)
              subst hrv
              have r0 := hcs m hlt
              obtain ⟨x, hx⟩ : ∃ x, R[m] = x := ⟨_, rfl⟩
              have HTX : Hid (R.take (m + 1) = R.take m ++ [x] ∧ x ∈ R) := ⟨by rw [take_snoc hlt, hx], by rw [← hx]; exact List.getElem_mem hlt⟩
              rw [hx] at r0
              have r4 := (HBW.out.1.cell (p := ⟨rb, ro + m, none⟩) (World.block_lt_of_cell? _ _ r0)).trans r0
              have HX : Hid (x ≤ 9223372036854775807) := HBR.out x HTX.out.2
              have e0 : wr.cell? ⟨X, 0, none⟩ = some (.slice G.wv G.N G.cap) := c4 0
              have hXl : X < wr.heap.size := World.block_lt_of_cell? _ _ e0
              have hGl : rb < wr.heap.size := World.block_lt_of_cell? _ _ r4
              have c4a : ∀ o, (wr.alloc (.cells #[.int .i64 0, .int .i64 0, .string ⟨#[]⟩, .slice none 0 0] 66)).cell? ⟨X, o, none⟩ = (#[.slice G.wv G.N G.cap, .slice G.yv G.M G.ycap, .int .i64 G.mark] : Array Value)[o]? := keep3 (below3 wr _) c4
              have r4a : (wr.alloc (.cells #[.int .i64 0, .int .i64 0, .string ⟨#[]⟩, .slice none 0 0] 66)).cell? ⟨rb, ro + m, none⟩ = some (.int .i64 x) := by rw [World.cell?_alloc_lt (h := hGl)]; exact r4
              have nX : ¬ X = wr.heap.size := by omega
              have nG : ¬ rb = wr.heap.size := by omega
              have HKR : Hid (∀ w', Below W.heap.size W w' → w'.cell? ⟨rb, ro + m, none⟩ = some (.int .i64 x) ∧ ∀ o, w'.cell? ⟨X, o, none⟩ = (#[.slice G.wv G.N G.cap, .slice G.yv G.M G.ycap, .int .i64 G.mark] : Array Value)[o]?) := fun w' hb' => ⟨((HB.out.trans (hb'.mono HB.out.size)).cell (p := ⟨rb, ro + m, none⟩) (World.block_lt_of_cell? _ _ r0)).trans r0, keep3 hb' HQ0.out⟩
              have KW : Hid (Below W.heap.size W wr.drew ∧ Below W.heap.size W (wr.alloc (.cells #[.int .i64 0, .int .i64 0, .string ⟨#[]⟩, .slice none 0 0] 66)).drew) := ⟨HBW.out.2.drew, (HBW.out.2.alloc HBW.out.2.size _).drew⟩
              have HRJ : Hid (∀ w', Below W.heap.size W w' → Calls Tryz.prog 33 #[.agg #[.slice G.wv G.N G.cap, .slice G.yv G.M G.ycap, .int .i64 G.mark], .slice G.av G.A.length G.acap, .int .i64 x] w' fun e w'' => ∃ a b c d' e' f, e = .returned (.tuple #[.agg #[.int .i64 a, .int .i64 b, .string c, .slice d' e' f], .bool (readT G.H x).isSome]) ∧ Below w'.heap.size w' w'') := fun w' hb' => by
                refine (specGensRead_any G w' (HS.out.below (HB.out.trans (hb'.mono HB.out.size))) x HX.out).mono ?_
                rintro e w'' ⟨a, b, c, d', e', f, rfl, hb, _⟩
                exact ⟨a, b, c, d', e', f, rfl, hb⟩
              clear r0 hcs hx e0 hXl hGl
              go_wp2_with fail
              go_cut [8, 9] from 40 to 49 (fun v8 v9 wx => ∃ k : Nat, v8 = .pointer (some ⟨k, 0, none⟩) ∧ v9 = .bool (readT G.H x).isSome ∧ Below W.heap.size W wx)
              case first =>
                go_region_law (go_simp; go_wp2_with (
                  (go_at_call 33; first
                    | ((conv in (World.alloc wr (.cells #[.int .i64 0, .int .i64 0, .string ⟨#[]⟩, .slice none 0 0] 66)) => skip); refine (HRJ.out _ KW.out.2).mono ?_; rintro e w5 ⟨a5, b5, cc5, d5, e5, f5, rfl, hb5⟩; obtain ⟨q5, z5⟩ := keep4m hb5; have HB5 : Hid (Below W.heap.size W w5) := KW.out.2.trans (hb5.mono KW.out.2.size); clear hb5)
                    | (refine (HRJ.out _ KW.out.1).mono ?_; rintro e w5 ⟨a5, b5, cc5, d5, e5, f5, rfl, hb5⟩; have HB5 : Hid (Below W.heap.size W w5) := KW.out.1.trans (hb5.mono KW.out.1.size); clear hb5))))
                all_goals
                  go_wp2_with fail
                  go_meet
                  case rel =>
                    refine ⟨_, rfl, rfl, ?_⟩
                    first
                      | exact HB5.out.alloc HB5.out.size _
                      | exact below_set4m HB5.out HBW.out.2.size _ _ _ _
              case rest =>
                obtain ⟨k, rfl, rfl, hwx⟩ := hcut
                have HWX : Hid (Below W.heap.size W wc) := hwx
                obtain ⟨r9, c9⟩ := HKR.out wc hwx
                have d0 : wc.cell? ⟨X, 0, none⟩ = some (.slice G.wv G.N G.cap) := c9 0
                have d1 : wc.cell? ⟨X, 1, none⟩ = some (.slice G.yv G.M G.ycap) := c9 1
                have d2 : wc.cell? ⟨X, 2, none⟩ = some (.int .i64 G.mark) := c9 2
                have k0 := Inn.keep d0
                have k1 := Inn.keep d1
                have k2 := Inn.keep d2
                have k3 := Inn.keep r9
                haveI := inn_ne wc
                clear c4 c4a r4 r4a nX nG KW HRJ HKR hwx c9
                cases hrd : (readT G.H x).isSome with
                | false =>
                  have HNO : Hid (¬ gensP G R) := fun h => by have := ((HGP.out.1 h) x HTX.out.2).1; rw [hrd] at this; cases this
                  clear hrd
                  go_wp2_with fail
                  refine wp_region_inn ?_ ?_ ?_
                  · kernel_rfl
                  · kernel_rfl
                  repeat (go_big_quiet_step (fail))
                  refine wpQuiet_nil ?_
                  rintro w1 ⟨y1, h1⟩
                  have hb1 : Below wc.heap.size wc w1 := by rw [h1]; exact y1.bel
                  have HB1 : Hid (Below W.heap.size W w1) := HWX.out.trans (hb1.mono HWX.out.size)
                  clear h1 hb1 y1 k0 k1 k2 k3 d0 d1 d2 r9
                  go_wp2_with fail
                  go_ret
                  exact ⟨false, rfl, ⟨fun h => (by cases h), fun h => absurd h HNO.out⟩, HB.out.trans (HB1.out.mono HB.out.size)⟩
                | true =>
                  have HRD : Hid ((readT G.H x).isSome = true) := hrd
                  have hlk := lk_root HSB.out hrd
                  have HLE : Hid (∀ y : Inn wc, Calls Tryz.prog 34 #[.agg #[.slice G.wv G.N G.cap, .slice G.yv G.M G.ycap, .int .i64 G.mark], .int .i64 x, .int .i64 200000] y.val fun e w' => e = .returned (.bool (lkB G.H G.mark 612 x 200000)) ∧ Below y.val.heap.size y.val w') := fun y => HLK.out y.val x (HS.out.below ((HB.out.trans (HWX.out.mono HB.out.size)).trans (y.bel.mono (HB.out.trans (HWX.out.mono HB.out.size)).size))) HX.out HRD.out
                  generalize lkB G.H G.mark 612 x 200000 = bl at hlk HLE
                  have HL : Hid (bl = true ↔ rootP G x) := hlk
                  clear hrd hlk
                  cases bl with
                  | false =>
                    have HNO : Hid (¬ gensP G R) := fun h => by have := HL.out.2 ((HGP.out.1 h) x HTX.out.2); cases this
                    go_wp2_with fail
                    refine wp_region_inn ?_ ?_ ?_
                    · kernel_rfl
                    · kernel_rfl
                    repeat (go_big_quiet_step (first
                      | (go_at_call 34; exact calls_inn (HLE.out _))))
                    refine wpQuiet_nil ?_
                    rintro w1 ⟨y1, h1⟩
                    have hb1 : Below wc.heap.size wc w1 := by rw [h1]; exact y1.bel
                    have HB1 : Hid (Below W.heap.size W w1) := HWX.out.trans (hb1.mono HWX.out.size)
                    clear h1 hb1 y1 k0 k1 k2 k3 d0 d1 d2 r9 HLE
                    go_wp2_with fail
                    go_ret
                    exact ⟨false, rfl, ⟨fun h => (by cases h), fun h => absurd h HNO.out⟩, HB.out.trans (HB1.out.mono HB.out.size)⟩
                  | true =>
                    go_wp2_with fail
                    refine wp_region_inn ?_ ?_ ?_
                    · kernel_rfl
                    · kernel_rfl
                    repeat (go_big_quiet_step (first
                      | (go_at_call 34; exact calls_inn (HLE.out _))))
                    refine wpQuiet_nil ?_
                    rintro w1 ⟨y1, h1⟩
                    have hb1 : Below wc.heap.size wc w1 := by rw [h1]; exact y1.bel
                    have HB1 : Hid (Below W.heap.size W w1) := HWX.out.trans (hb1.mono HWX.out.size)
                    clear h1 hb1 y1 k0 k1 k2 k3 d0 d1 d2 r9 HLE
                    have V1 : IntKind.i64.wrap ((m : Int) + 1) = (m : Int) + 1 := by rw [IntKind.wrap_i64]; omega
                    go_wp2_with fail
                    go_roundw
                    case rel =>
                      refine ⟨m + 1, by congr 1, by omega, ?_, HB1.out⟩
                      rw [HTX.out.1]
                      exact all_snoc HALL.out (HL.out.1 (by first | rfl | trivial))
                    case measure => simp [intOf]; omega
end Go.Proofs.YtjjmikfbongccaaGreatDoor.Gn

namespace Go.Proofs.YtjjmikfbongccaaGreatDoor
open Go.RowKit
set_option linter.unusedVariables false

/-- What the copies are read from. -/
abbrev geO (N : Nat) (f : Nat → Int) (M : Nat) (h : Nat → Int) (mk : Int) (L : List ByteArray) (g y s : Nat) : Gn.GE := ⟨N, f, some ⟨g, 0, none⟩, g, 0, N, M, h, some ⟨y, 0, none⟩, y, 0, M, mk, L, some ⟨s, 0, none⟩, s, 0, L.length⟩
theorem gsrcO {w : World} {N M : Nat} {f h : Nat → Int} {mk : Int} {L : List ByteArray} {g y s : Nat} (hi : IG w g y N M f h) (ht : Txt w s 0 L) (hF : Few N M) (hL : L.length ≤ 1048576) (hf : ∀ j, f j ≤ 9223372036854775807) (hh : ∀ j, h j ≤ 9223372036854775807) (hs : ∀ x ∈ L, x.size ≤ 1048576) : Gn.GSrc (geO N f M h mk L g y s) w :=
  ⟨hF.1, hF.2.1, hL, .inl ⟨rfl, Nat.le_refl _⟩, .inl ⟨rfl, Nat.le_refl _⟩, fun _ => rfl, fun j hj => hi.o.cell j hj, fun j hj => hi.i.cell j hj, ht, hf, hh, hs⟩
theorem gRoots_of {w : World} {n r : Nat} {g : Nat → Int} (hi : Ints w r 0 n g) : Roots w (some ⟨r, 0, none⟩) (rootsOf n g) := fun _ => ⟨r, 0, rfl, fun j hj => by
  have hj' : j < n := by rw [roots_len] at hj; exact hj
  have e : (rootsOf n g)[j] = g j := by simp [rootsOf]
  rw [e]
  exact hi.cell j hj'⟩
theorem gRoots_big {n : Nat} {g : Nat → Int} (h : ∀ j, g j ≤ 9223372036854775807) : ∀ x ∈ rootsOf n g, x ≤ 9223372036854775807 := fun x hx => by
  obtain ⟨j, _, rfl⟩ := List.mem_map.1 hx
  exact h j
theorem same_bool {a b : Bool} {P Q : Prop} (h : a = true ↔ P) (k : b = true ↔ Q) (e : P ↔ Q) : a = b := by
  have : a = true ↔ b = true := h.trans (e.trans k.symm)
  cases a <;> cases b <;> simp_all
end Go.Proofs.YtjjmikfbongccaaGreatDoor
namespace Go.Proofs.YtjjmikfbongccaaGreatDoor.Gn
open Go.RowKit Atom
open Go.Proofs.YtjjmikfbongccaaGreatDoor.Code
set_option linter.unusedVariables false

open Classical in
/-- Are these words right as roots of these lists? -/
noncomputable def gkB (G : GE) (R : List Int) : Bool := decide (gensP G R)
theorem gkB_of {G : GE} {R : List Int} {r : Bool} (h : r = true ↔ gensP G R) : r = gkB G R := by
  unfold gkB
  by_cases hp : gensP G R
  · rw [h.2 hp]; simp [hp]
  · cases r with
    | true => exact absurd (h.1 rfl) hp
    | false => simp [hp]
/-- A list of one's own, read as roots. -/
theorem OwI.roots {w : World} {B : Nat} {v : Value} {xs : List Int} (h : OwI w B v xs) : ∃ ao cap, v = .slice ao xs.length cap ∧ Roots w ao xs := by
  obtain ⟨hl, ⟨rfl, h0⟩ | ⟨g, cap, cur, rfl, hg, hh, hn, hc, hs, ht⟩⟩ := h
  · exact ⟨none, 0, by rw [h0], fun hn => absurd h0 hn⟩
  · refine ⟨some ⟨g, 0, none⟩, cap, rfl, fun _ => ⟨g, 0, rfl, fun j hj => ?_⟩⟩
    rw [Nat.zero_add]
    have e1 : w.cell? ⟨g, j, none⟩ = cur[j]? := by simp [World.cell?, hh]
    have e2 : (xs.map (Value.int .i64))[j]? = some (.int .i64 xs[j]) := by rw [List.getElem?_map, List.getElem?_eq_getElem hj]; rfl
    rw [e1, ← Array.getElem?_toList]
    rw [← ht, List.getElem?_take] at e2
    split at e2
    · exact e2
    · cases e2
/-- No word of the cell is beyond int. -/
def CeW (c : Ce) : Prop := ∀ x ∈ rts c, x ≤ 9223372036854775807
/-- A cell is right. -/
noncomputable def ceB (l : List I) (c : Ce) (G : GE) : Bool := stB l c.pid c.pc c.R c.B c.f c.N && gkB G (rts c)

set_option maxHeartbeats 4000000 in
set_option maxRecDepth 100000 in
theorem isRight_any (l : List I) (lo : Option Addr) (lc2 : Nat) (G : GE) (pid pc : Int) (R : Nat) (r : Nat → Int) (B : Nat) (b : Nat → Int) (N : Nat) (f : Nat → Int) (ha : Int) (b1 o1 rc b2 o2 bc : Nat) (la : Option Addr) (lc k : Nat) (w : World)
    (hk : ∀ o, w.cell? ⟨k, o, none⟩ = (resC pid pc (some ⟨b1, o1, none⟩) R rc (some ⟨b2, o2, none⟩) B bc la N lc ha G.wv G.N G.cap G.yv G.M G.ycap G.mark G.av G.A.length G.acap)[o]?)
    (hl : RowI w lo l) (hsm : SmI maxLen l) (hln : l.length ≤ 1048576) (hr : RdI w la N f) (hS : Shp w) (hP : Pow w) (hE : Es.Ety w) (hg : GSrc G w)
    (hc : Cat w ⟨pid, pc, R, r, B, b, N, f, ha⟩ ⟨some ⟨b1, o1, none⟩, rc, some ⟨b2, o2, none⟩, bc, la, lc⟩ b1 o1 b2 o2) (hs : CeS ⟨pid, pc, R, r, B, b, N, f, ha⟩) (hw : CeW ⟨pid, pc, R, r, B, b, N, f, ha⟩) :
    Calls Tryz.prog 28 #[.pointer (some ⟨k, 0, none⟩), .slice lo l.length lc2] w fun e w' => e = .returned (.bool (ceB l ⟨pid, pc, R, r, B, b, N, f, ha⟩ G)) ∧ Below w.heap.size w w' := by
  have hsum : R + B + N ≤ 1048576 := hs
  have KST : Hid (∀ w1, Below w.heap.size w w1 → Calls Tryz.prog 35 #[.agg #[.int .i64 pid, .int .i64 pc, .slice la N lc], .slice lo l.length lc2, .int .i64 R, .int .i64 B] w1 fun e w2 => e = .returned (.bool (stB l pid pc R B f N)) ∧ Below w1.heap.size w1 w2) := fun w1 h =>
    standsIn_any l lo lc2 pid pc la N lc f R B w1 (hl.below h) hsm hln (hr.below h) (by omega) (by unfold maxLen; omega) (by unfold maxLen; omega) (hS.below h) (hP.below h) (hE.below h)
  have KCE : Hid (∀ w1, Below w.heap.size w w1 → Calls Tryz.prog 38 #[.pointer (some ⟨k, 0, none⟩)] w1 fun e w2 => e = .returned (.agg #[.int .i64 pid, .int .i64 pc, .slice (some ⟨b1, o1, none⟩) R rc, .slice (some ⟨b2, o2, none⟩) B bc, .slice la N lc, .int .i64 ha]) ∧ Below w1.heap.size w1 w2) := fun w1 h =>
    cellOf_any pid pc _ R rc _ B bc la N lc ha k w1 (keepC h (hk 0)) (keepC h (hk 1)) (keepC h (hk 2)) (keepC h (hk 3)) (keepC h (hk 4)) (keepC h (hk 5))
  have KRO : Hid (∀ w1, Below w.heap.size w w1 → Calls Tryz.prog 37 #[.agg #[.int .i64 pid, .int .i64 pc, .slice (some ⟨b1, o1, none⟩) R rc, .slice (some ⟨b2, o2, none⟩) B bc, .slice la N lc, .int .i64 ha]] w1 fun e w2 => ∃ ao cap, e = .returned (.slice ao (rts ⟨pid, pc, R, r, B, b, N, f, ha⟩).length cap) ∧ Roots w2 ao (rts ⟨pid, pc, R, r, B, b, N, f, ha⟩) ∧ Below w1.heap.size w1 w2) := fun w1 h => by
    refine (implRoots_any ⟨pid, pc, R, r, B, b, N, f, ha⟩ ⟨some ⟨b1, o1, none⟩, rc, some ⟨b2, o2, none⟩, bc, la, lc⟩ b1 o1 b2 o2 w1 (hc.below h) hs).mono ?_
    rintro e w2 ⟨v, rfl, ho, hb⟩
    obtain ⟨ao, cap, rfl, hro⟩ := OwI.roots ho
    exact ⟨ao, cap, rfl, hro, hb⟩
  have KGO : Hid (∀ w1 ao cap, Below w.heap.size w w1 → Roots w1 ao (rts ⟨pid, pc, R, r, B, b, N, f, ha⟩) → Calls Tryz.prog 36 #[.agg #[.slice G.wv G.N G.cap, .slice G.yv G.M G.ycap, .int .i64 G.mark], .slice G.av G.A.length G.acap, .slice ao (rts ⟨pid, pc, R, r, B, b, N, f, ha⟩).length cap] w1 fun e w2 => e = .returned (.bool (gkB G (rts ⟨pid, pc, R, r, B, b, N, f, ha⟩))) ∧ Below w1.heap.size w1 w2) := fun w1 ao cap h hro => by
    refine (implGensOk_any (hg.below h) (rts ⟨pid, pc, R, r, B, b, N, f, ha⟩) ao cap hro (by rw [rts_len]; dsimp only; omega) hw).mono ?_
    rintro e w2 ⟨r, rfl, hr, hb⟩
    exact ⟨by rw [gkB_of hr], hb⟩
  obtain ⟨st, hst⟩ : ∃ st, stB l pid pc R B f N = st := ⟨_, rfl⟩
  obtain ⟨gk, hgk⟩ : ∃ gk, gkB G (rts ⟨pid, pc, R, r, B, b, N, f, ha⟩) = gk := ⟨_, rfl⟩
  have HRES : Hid (ceB l ⟨pid, pc, R, r, B, b, N, f, ha⟩ G = (st && gk)) := by show _ = _; unfold ceB; rw [hgk]; show (stB l pid pc R B f N && gk) = _; rw [hst]
  rw [hst] at KST
  rw [hgk] at KGO
  generalize (rts ⟨pid, pc, R, r, B, b, N, f, ha⟩) = RT at *
  rw [HRES.out]
  clear hst hgk HRES hl hsm hln hr hS hP hE hg hc hs hw
  have d0 : w.cell? ⟨k, 0, none⟩ = some (.int .i64 pid) := hk 0
  have d1 : w.cell? ⟨k, 1, none⟩ = some (.int .i64 pc) := hk 1
  have d2 : w.cell? ⟨k, 2, none⟩ = some (.slice la N lc) := hk 2
  have d3 : w.cell? ⟨k, 3, none⟩ = some (.slice (some ⟨b1, o1, none⟩) R rc) := hk 3
  have d4 : w.cell? ⟨k, 4, none⟩ = some (.slice (some ⟨b2, o2, none⟩) B bc) := hk 4
  have d6 : w.cell? ⟨k, 6, none⟩ = some (.slice G.wv G.N G.cap) := hk 6
  have d7 : w.cell? ⟨k, 7, none⟩ = some (.slice G.yv G.M G.ycap) := hk 7
  have d8 : w.cell? ⟨k, 8, none⟩ = some (.int .i64 G.mark) := hk 8
  have d9 : w.cell? ⟨k, 9, none⟩ = some (.slice G.av G.A.length G.acap) := hk 9
  clear hk
  go_enter Tryz.func28, Tryz.ntmps28
  go_wp2_with fail
  cases st with
  | false =>
    have k0 := Inn.keep d0
    have k1 := Inn.keep d1
    have k2 := Inn.keep d2
    have k3 := Inn.keep d3
    have k4 := Inn.keep d4
    haveI := inn_ne w
    refine wp_region_inn ?_ ?_ ?_
    · kernel_rfl
    · kernel_rfl
    repeat (go_big_quiet_step (first
      | (go_at_call 35; exact calls_inn (KST.out _ (Inn.bel _)))))
    refine wpQuiet_nil ?_
    rintro w1 ⟨y1, h1⟩
    have hb1 : Below w.heap.size w w1 := by rw [h1]; exact y1.bel
    have HF : Hid (Below w.heap.size w w1) := hb1
    clear h1 hb1 y1 k0 k1 k2 k3 k4 d0 d1 d2 d3 d4
    go_wp2_with fail
    go_ret
    exact ⟨rfl, HF.out⟩
  | true =>
    have HKP : Hid (∀ w', Below w.heap.size w w' → w'.cell? ⟨k, 0, none⟩ = some (.int .i64 pid) ∧ w'.cell? ⟨k, 1, none⟩ = some (.int .i64 pc) ∧ w'.cell? ⟨k, 2, none⟩ = some (.slice la N lc) ∧ w'.cell? ⟨k, 3, none⟩ = some (.slice (some ⟨b1, o1, none⟩) R rc) ∧ w'.cell? ⟨k, 4, none⟩ = some (.slice (some ⟨b2, o2, none⟩) B bc) ∧ w'.cell? ⟨k, 6, none⟩ = some (.slice G.wv G.N G.cap) ∧ w'.cell? ⟨k, 7, none⟩ = some (.slice G.yv G.M G.ycap) ∧ w'.cell? ⟨k, 8, none⟩ = some (.int .i64 G.mark) ∧ w'.cell? ⟨k, 9, none⟩ = some (.slice G.av G.A.length G.acap)) := fun w' hb => ⟨keepC hb d0, keepC hb d1, keepC hb d2, keepC hb d3, keepC hb d4, keepC hb d6, keepC hb d7, keepC hb d8, keepC hb d9⟩
    have HBD : Hid (Below w.heap.size w w.drew) := (Below.refl _ _).drew
    obtain ⟨p0, p1, p2, p3, p4, p6, p7, p8, p9⟩ := HKP.out _ HBD.out
    first
    | go_region_held3 (fun w' => w'.cell? ⟨k, 0, none⟩ = some (.int .i64 pid) ∧ w'.cell? ⟨k, 1, none⟩ = some (.int .i64 pc) ∧ w'.cell? ⟨k, 2, none⟩ = some (.slice la N lc) ∧ w'.cell? ⟨k, 3, none⟩ = some (.slice (some ⟨b1, o1, none⟩) R rc) ∧ w'.cell? ⟨k, 4, none⟩ = some (.slice (some ⟨b2, o2, none⟩) B bc) ∧ w'.cell? ⟨k, 6, none⟩ = some (.slice G.wv G.N G.cap) ∧ w'.cell? ⟨k, 7, none⟩ = some (.slice G.yv G.M G.ycap) ∧ w'.cell? ⟨k, 8, none⟩ = some (.int .i64 G.mark) ∧ w'.cell? ⟨k, 9, none⟩ = some (.slice G.av G.A.length G.acap)) (first | (refine ⟨?_, ?_, ?_, ?_, ?_, ?_, ?_, ?_, ?_⟩ <;> assumption) | go_keep)
      (first
        | (go_at_call 35; refine (KST.out _ HBD.out).mono ?_; rintro e w2 ⟨rfl, hb2⟩; have HB2 : Hid (Below w.heap.size w w2) := HBD.out.trans (hb2.mono HBD.out.size); obtain ⟨q0, q1, q2, q3, q4, q6, q7, q8, q9⟩ := HKP.out _ HB2.out; clear hb2)
        | (go_at_call 38; refine (KCE.out _ HB2.out).mono ?_; rintro e w3 ⟨rfl, hb3⟩; have HB3 : Hid (Below w.heap.size w w3) := HB2.out.trans (hb3.mono HB2.out.size); obtain ⟨r0, r1, r2, r3, r4, r6, r7, r8, r9⟩ := HKP.out _ HB3.out; clear hb3)
        | (go_at_call 37; refine (KRO.out _ HB3.out).mono ?_; rintro e w4 ⟨av4, cap4, rfl, hro4, hb4⟩; have HRO : Hid (Roots w4 av4 RT) := hro4; have HB4 : Hid (Below w.heap.size w w4) := HB3.out.trans (hb4.mono HB3.out.size); obtain ⟨s0, s1, s2, s3, s4, s6, s7, s8, s9⟩ := HKP.out _ HB4.out; clear hb4 hro4)
        | (go_at_call 36; refine (KGO.out _ av4 cap4 HB4.out HRO.out).mono ?_; rintro e w5 ⟨rfl, hb5⟩; have HB5 : Hid (Below w.heap.size w w5) := HB4.out.trans (hb5.mono HB4.out.size); obtain ⟨t0, t1, t2, t3, t4, t6, t7, t8, t9⟩ := HKP.out _ HB5.out; clear hb5))
    | fail
    all_goals (
      go_wp2_with fail
      go_ret
      exact ⟨rfl, HB5.out⟩)
set_option maxHeartbeats 1000000 in
set_option maxRecDepth 100000 in
theorem implCellOk_any (l : List I) (lo : Option Addr) (lc2 : Nat) (G : GE) (pid pc : Int) (R : Nat) (r : Nat → Int) (B : Nat) (b : Nat → Int) (N : Nat) (f : Nat → Int) (ha : Int) (b1 o1 rc b2 o2 bc : Nat) (la : Option Addr) (lc : Nat) (w : World)
    (hl : RowI w lo l) (hsm : SmI maxLen l) (hln : l.length ≤ 1048576) (hr : RdI w la N f) (hS : Shp w) (hP : Pow w) (hE : Es.Ety w) (hg : GSrc G w)
    (hc : Cat w ⟨pid, pc, R, r, B, b, N, f, ha⟩ ⟨some ⟨b1, o1, none⟩, rc, some ⟨b2, o2, none⟩, bc, la, lc⟩ b1 o1 b2 o2) (hs : CeS ⟨pid, pc, R, r, B, b, N, f, ha⟩) (hw : CeW ⟨pid, pc, R, r, B, b, N, f, ha⟩) :
    Calls Tryz.prog 13 #[.slice lo l.length lc2, .agg #[.int .i64 pid, .int .i64 pc, .slice (some ⟨b1, o1, none⟩) R rc, .slice (some ⟨b2, o2, none⟩) B bc, .slice la N lc, .int .i64 ha], .agg #[.slice G.wv G.N G.cap, .slice G.yv G.M G.ycap, .int .i64 G.mark], .slice G.av G.A.length G.acap] w fun e w' => e = .returned (.bool (ceB l ⟨pid, pc, R, r, B, b, N, f, ha⟩ G)) ∧ Below w.heap.size w w' := by
  have KRI : Hid (∀ w1 k, Below w.heap.size w w1 → (∀ o, w1.cell? ⟨k, o, none⟩ = (resC pid pc (some ⟨b1, o1, none⟩) R rc (some ⟨b2, o2, none⟩) B bc la N lc ha G.wv G.N G.cap G.yv G.M G.ycap G.mark G.av G.A.length G.acap)[o]?) → Calls Tryz.prog 28 #[.pointer (some ⟨k, 0, none⟩), .slice lo l.length lc2] w1 fun e w' => e = .returned (.bool (ceB l ⟨pid, pc, R, r, B, b, N, f, ha⟩ G)) ∧ Below w1.heap.size w1 w') := fun w1 k h hk =>
    isRight_any l lo lc2 G pid pc R r B b N f ha b1 o1 rc b2 o2 bc la lc k w1 hk (hl.below h) hsm hln (hr.below h) (hS.below h) (hP.below h) (hE.below h) (hg.below h) (hc.below h) hs hw
  clear hl hsm hln hr hS hP hE hg hc hs hw
  generalize ceB l ⟨pid, pc, R, r, B, b, N, f, ha⟩ G = q at *
  go_enter Tryz.func13, Tryz.ntmps13
  go_wp2_with (go_at_call 27; fail)
  generalize hW : (w.alloc (.cells #[.int .i64 pid, .int .i64 pc, .slice (some ⟨b1, o1, none⟩) R rc, .slice (some ⟨b2, o2, none⟩) B bc, .slice la N lc, .int .i64 ha] 36)).alloc (.cells #[.slice G.wv G.N G.cap, .slice G.yv G.M G.ycap, .int .i64 G.mark] 38) = W
  have HB : Hid (Below w.heap.size w W) := by rw [← hW]; exact ((Below.refl _ _).alloc (Nat.le_refl _) _).alloc (by simp) _
  clear hW
  refine (residentOf_any _ _ _ _ _ _ _ _ _ _ _ _ _ _ _ _ _ _ _ _ _ _ W).mono ?_
  rintro e w1 ⟨k, rfl, hk, hk1, hk2, hb1⟩
  have HB1 : Hid (Below w.heap.size w w1) := HB.out.trans (hb1.mono HB.out.size)
  have HK : Hid (∀ o, w1.cell? ⟨k, o, none⟩ = (resC pid pc (some ⟨b1, o1, none⟩) R rc (some ⟨b2, o2, none⟩) B bc la N lc ha G.wv G.N G.cap G.yv G.M G.ycap G.mark G.av G.A.length G.acap)[o]?) := hk
  clear hk hk1 hk2 hb1
  go_wp2_with (go_at_call 28; fail)
  refine (KRI.out w1 k HB1.out HK.out).mono ?_
  rintro e w2 ⟨rfl, hb2⟩
  have HB2 : Hid (Below w.heap.size w w2) := HB1.out.trans (hb2.mono HB1.out.size)
  clear hb2
  go_wp2_with fail
  go_ret
  exact ⟨rfl, HB2.out⟩
end Go.Proofs.YtjjmikfbongccaaGreatDoor.Gn
namespace Go.Proofs.YtjjmikfbongccaaGreatDoor.Gn
open Go.RowKit Atom
open Go.Proofs.YtjjmikfbongccaaGreatDoor.Code
set_option linter.unusedVariables false

set_option maxHeartbeats 4000000 in
set_option maxRecDepth 100000 in
theorem specCellOk_any (l : List I) (lo : Option Addr) (lc2 : Nat) (G : GE) (pid pc : Int) (R : Nat) (r : Nat → Int) (B : Nat) (b : Nat → Int) (N : Nat) (f : Nat → Int) (ha : Int) (b1 o1 rc b2 o2 bc : Nat) (la : Option Addr) (lc : Nat) (w : World)
    (hl : RowI w lo l) (hsm : SmI maxLen l) (hln : l.length ≤ 1048576) (hr : RdI w la N f) (hg : GSrc G w)
    (hc : Cat w ⟨pid, pc, R, r, B, b, N, f, ha⟩ ⟨some ⟨b1, o1, none⟩, rc, some ⟨b2, o2, none⟩, bc, la, lc⟩ b1 o1 b2 o2) (hs : CeS ⟨pid, pc, R, r, B, b, N, f, ha⟩) (hw : CeW ⟨pid, pc, R, r, B, b, N, f, ha⟩) :
    Calls Tryz.prog 8 #[.slice lo l.length lc2, .agg #[.int .i64 pid, .int .i64 pc, .slice (some ⟨b1, o1, none⟩) R rc, .slice (some ⟨b2, o2, none⟩) B bc, .slice la N lc, .int .i64 ha], .agg #[.slice G.wv G.N G.cap, .slice G.yv G.M G.ycap, .int .i64 G.mark], .slice G.av G.A.length G.acap] w fun e w' => e = .returned (.bool (ceB l ⟨pid, pc, R, r, B, b, N, f, ha⟩ G)) ∧ Below w.heap.size w w' := by
  have hsum : R + B + N ≤ 1048576 := hs
  have HLN : Hid (l.length ≤ 9223372036854775807) := by show _ ≤ _; omega
  obtain ⟨w0, hw0⟩ : ∃ w0, w0 = (w.alloc (.cells #[.int .i64 pid, .int .i64 pc, .slice (some ⟨b1, o1, none⟩) R rc, .slice (some ⟨b2, o2, none⟩) B bc, .slice la N lc, .int .i64 ha] 36)).alloc (.cells #[.slice G.wv G.N G.cap, .slice G.yv G.M G.ycap, .int .i64 G.mark] 38) := ⟨_, rfl⟩
  have hbx : Below (w.alloc (.cells #[.int .i64 pid, .int .i64 pc, .slice (some ⟨b1, o1, none⟩) R rc, .slice (some ⟨b2, o2, none⟩) B bc, .slice la N lc, .int .i64 ha] 36)).heap.size (w.alloc (.cells #[.int .i64 pid, .int .i64 pc, .slice (some ⟨b1, o1, none⟩) R rc, .slice (some ⟨b2, o2, none⟩) B bc, .slice la N lc, .int .i64 ha] 36)) w0 := by rw [hw0]; exact (Below.refl _ _).alloc (Nat.le_refl _) _
  have hz1 : (w.alloc (.cells #[.int .i64 pid, .int .i64 pc, .slice (some ⟨b1, o1, none⟩) R rc, .slice (some ⟨b2, o2, none⟩) B bc, .slice la N lc, .int .i64 ha] 36)).heap.size = w.heap.size + 1 := World.size_alloc _ _
  have HB0 : Hid (Below w.heap.size w w0) := by rw [hw0]; exact ((Below.refl _ _).alloc (Nat.le_refl _) _).alloc (by simp) _
  have hq : ∀ j (v : Value), (#[.int .i64 pid, .int .i64 pc, .slice (some ⟨b1, o1, none⟩) R rc, .slice (some ⟨b2, o2, none⟩) B bc, .slice la N lc, .int .i64 ha] : Array Value)[j]? = some v → w0.cell? ⟨w.heap.size, j, none⟩ = some v := fun j v hv => by
    rw [hbx.cell (p := ⟨w.heap.size, j, none⟩) (by show w.heap.size < _; omega), World.cell?_alloc_new]; exact hv
  have hqg : ∀ j (v : Value), (#[.slice G.wv G.N G.cap, .slice G.yv G.M G.ycap, .int .i64 G.mark] : Array Value)[j]? = some v → w0.cell? ⟨w.heap.size + 1, j, none⟩ = some v := fun j v hv => by
    rw [hw0, ← hz1, World.cell?_alloc_new]; exact hv
  have HC : Hid (∀ w1, Below w0.heap.size w0 w1 → w1.cell? ⟨w.heap.size, 0, none⟩ = some (.int .i64 pid) ∧ w1.cell? ⟨w.heap.size, 1, none⟩ = some (.int .i64 pc) ∧ w1.cell? ⟨w.heap.size, 2, none⟩ = some (.slice (some ⟨b1, o1, none⟩) R rc) ∧ w1.cell? ⟨w.heap.size, 3, none⟩ = some (.slice (some ⟨b2, o2, none⟩) B bc) ∧ w1.cell? ⟨w.heap.size, 4, none⟩ = some (.slice la N lc) ∧ w1.cell? ⟨w.heap.size, 5, none⟩ = some (.int .i64 ha)) := fun w1 hb =>
    ⟨keepC hb (hq 0 _ rfl), keepC hb (hq 1 _ rfl), keepC hb (hq 2 _ rfl), keepC hb (hq 3 _ rfl), keepC hb (hq 4 _ rfl), keepC hb (hq 5 _ rfl)⟩
  have HCG : Hid (∀ w1, Below w0.heap.size w0 w1 → w1.cell? ⟨w.heap.size + 1, 0, none⟩ = some (.slice G.wv G.N G.cap) ∧ w1.cell? ⟨w.heap.size + 1, 1, none⟩ = some (.slice G.yv G.M G.ycap) ∧ w1.cell? ⟨w.heap.size + 1, 2, none⟩ = some (.int .i64 G.mark)) := fun w1 hb =>
    ⟨keepC hb (hqg 0 _ rfl), keepC hb (hqg 1 _ rfl), keepC hb (hqg 2 _ rfl)⟩
  have HW : Hid (∀ w1, Below w0.heap.size w0 w1 → Below w.heap.size w w1) := fun w1 h => HB0.out.trans (h.mono HB0.out.size)
  have KCODE : Hid (∀ w1, Below w0.heap.size w0 w1 → Calls Tryz.prog 20 #[.slice lo l.length lc2] w1 fun e w2 => e = .returned (.bool (codeB l)) ∧ Below w0.heap.size w0 w2) := fun w1 hb => by
    have h := HW.out w1 hb
    exact (specCode_any l lo lc2 w1 (hl.below h) hsm HLN.out).mono fun e w2 ⟨h1, h2⟩ => ⟨h1, hb.trans (h2.mono hb.size)⟩
  have KLNK : Hid (∀ w1, Below w0.heap.size w0 w1 → Calls Tryz.prog 22 #[.slice la N lc, .int .i64 pid] w1 fun e w2 => e = .returned (.bool (lnkB f pid N && decide (N ≤ 50))) ∧ Below w1.heap.size w1 w2) := fun w1 hb =>
    l9Links_any la N lc f pid w1 (hr.below (HW.out w1 hb)) (by omega)
  have KRO : Hid (∀ w1, Below w0.heap.size w0 w1 → Calls Tryz.prog 24 #[.agg #[.int .i64 pid, .int .i64 pc, .slice (some ⟨b1, o1, none⟩) R rc, .slice (some ⟨b2, o2, none⟩) B bc, .slice la N lc, .int .i64 ha]] w1 fun e w2 => ∃ ao cap, e = .returned (.slice ao (rts ⟨pid, pc, R, r, B, b, N, f, ha⟩).length cap) ∧ Roots w2 ao (rts ⟨pid, pc, R, r, B, b, N, f, ha⟩) ∧ Below w1.heap.size w1 w2) := fun w1 h => by
    refine (specRoots_any ⟨pid, pc, R, r, B, b, N, f, ha⟩ ⟨some ⟨b1, o1, none⟩, rc, some ⟨b2, o2, none⟩, bc, la, lc⟩ b1 o1 b2 o2 w1 (hc.below (HW.out w1 h)) hs).mono ?_
    rintro e w2 ⟨v, rfl, ho, hb⟩
    obtain ⟨ao, cap, rfl, hro⟩ := OwI.roots ho
    exact ⟨ao, cap, rfl, hro, hb⟩
  have KGO : Hid (∀ w1 ao cap, Below w0.heap.size w0 w1 → Roots w1 ao (rts ⟨pid, pc, R, r, B, b, N, f, ha⟩) → Calls Tryz.prog 23 #[.agg #[.slice G.wv G.N G.cap, .slice G.yv G.M G.ycap, .int .i64 G.mark], .slice G.av G.A.length G.acap, .slice ao (rts ⟨pid, pc, R, r, B, b, N, f, ha⟩).length cap] w1 fun e w2 => e = .returned (.bool (gkB G (rts ⟨pid, pc, R, r, B, b, N, f, ha⟩))) ∧ Below w1.heap.size w1 w2) := fun w1 ao cap h hro => by
    refine (specGensOk_any (hg.below (HW.out w1 h)) (rts ⟨pid, pc, R, r, B, b, N, f, ha⟩) ao cap hro (by rw [rts_len]; dsimp only; omega) hw).mono ?_
    rintro e w2 ⟨r, rfl, hr, hb⟩
    exact ⟨by rw [gkB_of hr], hb⟩
  have hrm : (R : Int) ≤ 9223372036854775807 := by omega
  have hbm : (B : Int) ≤ 9223372036854775807 := by omega
  obtain ⟨gk, hgk⟩ : ∃ gk, gkB G (rts ⟨pid, pc, R, r, B, b, N, f, ha⟩) = gk := ⟨_, rfl⟩
  have HRES : Hid (ceB l ⟨pid, pc, R, r, B, b, N, f, ha⟩ G = (stB l pid pc R B f N && gk)) := by show _ = _; unfold ceB; rw [hgk]
  rw [hgk] at KGO
  generalize (rts ⟨pid, pc, R, r, B, b, N, f, ha⟩) = RT at *
  rw [HRES.out]
  clear hgk HRES hl hsm hr hg hc hs hw hq hqg hbx hz1
  go_enter Tryz.func8, Tryz.ntmps8
  go_wp2_with fail
  rw [← hw0]
  clear hw0
  refine (KCODE.out w0 (Below.refl _ _)).mono ?_
  rintro e w1 ⟨he, hb1⟩
  have HB1 : Hid (Below w0.heap.size w0 w1) := hb1
  obtain ⟨d0, d1, d2, d3, d4, d5⟩ := HC.out w1 hb1
  clear hb1
  cases hc : codeB l
  · rw [hc] at he; subst he
    have HF : Hid ((stB l pid pc R B f N && gk) = false) := by show _ = _; rw [stB_no1 hc]; rfl
    clear hc
    go_wp2_with (first | (go_at_call 21; refine (Atom.in_any _ _ _ _).mono ?_; rintro e w' ⟨rfl, hw'⟩; obtain rfl := hw'.symm))
    go_ret
    exact ⟨ret_bool HF.out.symm, HW.out _ HB1.out⟩
  rw [hc] at he; subst he
  have hlen := codeB_lenS hc
  have HC1 : Hid (codeB l = true) := hc
  clear hc
  by_cases h2 : 1 ≤ pid ∧ pid ≤ 99999
  rotate_left
  · have q2 : Atom.inB pid 1 99999 = false := decide_eq_false h2
    have HF : Hid ((stB l pid pc R B f N && gk) = false) := by show _ = _; rw [stB_no2 h2]; rfl
    clear h2
    go_wp2_with (first | (go_at_call 21; refine (Atom.in_any _ _ _ _).mono ?_; rintro e w' ⟨rfl, hw'⟩; obtain rfl := hw'.symm))
    go_ret
    exact ⟨ret_bool HF.out.symm, HW.out _ HB1.out⟩
  have q2 : Atom.inB pid 1 99999 = true := decide_eq_true h2
  have H2 : Hid (1 ≤ pid ∧ pid ≤ 99999) := h2
  clear h2
  have ew : IntKind.i64.wrap ((l.length : Int) - 1) = (l.length : Int) - 1 := by rw [IntKind.wrap_i64]; omega
  by_cases h3 : 0 ≤ pc ∧ pc < l.length
  rotate_left
  · have q3 : Atom.inB pc 0 ((l.length : Int) - 1) = false := decide_eq_false (by omega)
    have HF : Hid ((stB l pid pc R B f N && gk) = false) := by show _ = _; rw [stB_no3 h3]; rfl
    clear h3
    go_wp2_with (first | (go_at_call 21; refine (Atom.in_any _ _ _ _).mono ?_; rintro e w' ⟨rfl, hw'⟩; obtain rfl := hw'.symm))
    go_ret
    exact ⟨ret_bool HF.out.symm, HW.out _ HB1.out⟩
  have q3 : Atom.inB pc 0 ((l.length : Int) - 1) = true := decide_eq_true (by omega)
  have H3 : Hid (0 ≤ pc ∧ pc < l.length) := h3
  clear h3
  by_cases h4 : R = 8
  rotate_left
  · have q4 : ((R : Int) != 8) = true := by simp; omega
    have HF : Hid ((stB l pid pc R B f N && gk) = false) := by show _ = _; rw [stB_no4 h4]; rfl
    clear h4
    go_wp2_with (first | (go_at_call 21; refine (Atom.in_any _ _ _ _).mono ?_; rintro e w' ⟨rfl, hw'⟩; obtain rfl := hw'.symm))
    go_ret
    exact ⟨ret_bool HF.out.symm, HW.out _ HB1.out⟩
  have q4 : ((R : Int) != 8) = false := by simp; omega
  have H4 : Hid (R = 8) := h4
  clear h4
  by_cases h5 : B ≤ 30
  rotate_left
  · have q5 : (30 : Int) < B := by omega
    have HF : Hid ((stB l pid pc R B f N && gk) = false) := by show _ = _; rw [stB_no5 h5]; rfl
    clear h5
    go_wp2_with (first | (go_at_call 21; refine (Atom.in_any _ _ _ _).mono ?_; rintro e w' ⟨rfl, hw'⟩; obtain rfl := hw'.symm))
    go_ret
    exact ⟨ret_bool HF.out.symm, HW.out _ HB1.out⟩
  have q5 : ¬ (30 : Int) < B := by omega
  have H5 : Hid (B ≤ 30) := h5
  clear h5
  have HST : Hid (stB l pid pc R B f N = (lnkB f pid N && decide (N ≤ 50))) := stB_is HC1.out H2.out H3.out H4.out H5.out
  go_wp2_with (first | (go_at_call 21; refine (Atom.in_any _ _ _ _).mono ?_; rintro e w' ⟨rfl, hw'⟩; obtain rfl := hw'.symm))
  obtain ⟨g0, g1, g2⟩ := HCG.out w1 HB1.out
  generalize (lnkB f pid N && decide (N ≤ 50)) = q at *
  clear q2 q3 q4 q5 ew hlen
  cases q with
  | false =>
    have k0 := Inn.keep d0
    have k4 := Inn.keep d4
    haveI := inn_ne w1
    refine wp_region_inn ?_ ?_ ?_
    · kernel_rfl
    · kernel_rfl
    repeat (go_big_quiet_step (first
      | (go_at_call 22; exact calls_inn (KLNK.out _ (HB1.out.trans ((Inn.bel _).mono HB1.out.size))))))
    refine wpQuiet_nil ?_
    rintro w2 ⟨y2, h2⟩
    have hb2 : Below w1.heap.size w1 w2 := by rw [h2]; exact y2.bel
    have HF : Hid (Below w.heap.size w w2) := HW.out w2 (HB1.out.trans (hb2.mono HB1.out.size))
    clear h2 hb2 y2 k0 k4 d0 d1 d2 d3 d4 d5 g0 g1 g2
    go_wp2_with fail
    go_ret
    exact ⟨ret_bool (by rw [HST.out]; rfl), HF.out⟩
  | true =>
    have HKP : Hid (∀ w', Below w0.heap.size w0 w' → w'.cell? ⟨w.heap.size, 0, none⟩ = some (.int .i64 pid) ∧ w'.cell? ⟨w.heap.size, 1, none⟩ = some (.int .i64 pc) ∧ w'.cell? ⟨w.heap.size, 2, none⟩ = some (.slice (some ⟨b1, o1, none⟩) R rc) ∧ w'.cell? ⟨w.heap.size, 3, none⟩ = some (.slice (some ⟨b2, o2, none⟩) B bc) ∧ w'.cell? ⟨w.heap.size, 4, none⟩ = some (.slice la N lc) ∧ w'.cell? ⟨w.heap.size, 5, none⟩ = some (.int .i64 ha) ∧ w'.cell? ⟨w.heap.size + 1, 0, none⟩ = some (.slice G.wv G.N G.cap) ∧ w'.cell? ⟨w.heap.size + 1, 1, none⟩ = some (.slice G.yv G.M G.ycap) ∧ w'.cell? ⟨w.heap.size + 1, 2, none⟩ = some (.int .i64 G.mark)) := fun w' hb => by
      obtain ⟨a0, a1, a2, a3, a4, a5⟩ := HC.out w' hb
      obtain ⟨e0, e1, e2⟩ := HCG.out w' hb
      exact ⟨a0, a1, a2, a3, a4, a5, e0, e1, e2⟩
    have HBD : Hid (Below w0.heap.size w0 w1.drew) := HB1.out.drew
    obtain ⟨p0, p1, p2, p3, p4, p5, p6, p7, p8⟩ := HKP.out _ HBD.out
    first
    | go_region_held3 (fun w' => w'.cell? ⟨w.heap.size, 0, none⟩ = some (.int .i64 pid) ∧ w'.cell? ⟨w.heap.size, 1, none⟩ = some (.int .i64 pc) ∧ w'.cell? ⟨w.heap.size, 2, none⟩ = some (.slice (some ⟨b1, o1, none⟩) R rc) ∧ w'.cell? ⟨w.heap.size, 3, none⟩ = some (.slice (some ⟨b2, o2, none⟩) B bc) ∧ w'.cell? ⟨w.heap.size, 4, none⟩ = some (.slice la N lc) ∧ w'.cell? ⟨w.heap.size, 5, none⟩ = some (.int .i64 ha) ∧ w'.cell? ⟨w.heap.size + 1, 0, none⟩ = some (.slice G.wv G.N G.cap) ∧ w'.cell? ⟨w.heap.size + 1, 1, none⟩ = some (.slice G.yv G.M G.ycap) ∧ w'.cell? ⟨w.heap.size + 1, 2, none⟩ = some (.int .i64 G.mark)) (first | (refine ⟨?_, ?_, ?_, ?_, ?_, ?_, ?_, ?_, ?_⟩ <;> assumption) | go_keep)
      (first
        | (go_at_call 22; refine (KLNK.out _ HBD.out).mono ?_; rintro e w2 ⟨rfl, hb2⟩; have HB2 : Hid (Below w0.heap.size w0 w2) := HBD.out.trans (hb2.mono HBD.out.size); obtain ⟨q0, q1, q2, q3, q4, q5, q6, q7, q8⟩ := HKP.out _ HB2.out; clear hb2)
        | (go_at_call 24; refine (KRO.out _ HB2.out).mono ?_; rintro e w4 ⟨av4, cap4, rfl, hro4, hb4⟩; have HRO : Hid (Roots w4 av4 RT) := hro4; have HB4 : Hid (Below w0.heap.size w0 w4) := HB2.out.trans (hb4.mono HB2.out.size); obtain ⟨s0, s1, s2, s3, s4, s5, s6, s7, s8⟩ := HKP.out _ HB4.out; clear hb4 hro4)
        | (go_at_call 23; refine (KGO.out _ av4 cap4 HB4.out HRO.out).mono ?_; rintro e w5 ⟨rfl, hb5⟩; have HB5 : Hid (Below w0.heap.size w0 w5) := HB4.out.trans (hb5.mono HB4.out.size); obtain ⟨t0, t1, t2, t3, t4, t5, t6, t7, t8⟩ := HKP.out _ HB5.out; clear hb5))
    | fail
    all_goals (
      go_wp2_with fail
      go_ret
      exact ⟨ret_bool (by rw [HST.out]; rfl), HW.out _ HB5.out⟩)
end Go.Proofs.YtjjmikfbongccaaGreatDoor.Gn
namespace Go.Proofs.YtjjmikfbongccaaGreatDoor.Gn
open Go.RowKit
set_option linter.unusedVariables false

set_option maxRecDepth 100000 in
theorem szGens_L (ao : Option Addr) (N cap : Nat) (yo : Option Addr) (M ycap : Nat) (mk : Int) (left : Int) (hN : N ≤ maxLen) (hM : M ≤ maxLen) (h0 : 0 ≤ left ∧ left ≤ 1048576) (w : World) :
    Calls Tryz.prog 6 #[.agg #[.slice ao N cap, .slice yo M ycap, .int .i64 mk], .int .i64 left] w fun e w' => ∃ y : Int, e = .returned (.int .i64 y) ∧ Below w.heap.size w w' ∧ -1 ≤ y ∧ (0 ≤ y → Few N M ∧ y + N + M ≤ left) := by
  have HLF : Hid (0 ≤ left ∧ left ≤ 1048576) := h0
  have HN : Hid (N ≤ maxLen) := hN
  have HM : Hid (M ≤ maxLen) := hM
  have hge := szI_ge N left
  obtain ⟨y, hyy⟩ : ∃ y, szI N left = y := ⟨_, rfl⟩
  have HE : Hid (szI N left = y) := hyy
  have HY : Hid (0 ≤ y → N ≤ 1048576 ∧ y = left - N) := fun h => by
    unfold szI at hyy
    split at hyy <;> omega
  rw [hyy] at hge
  clear hyy hN hM
  go_enter Tryz.func6, Tryz.ntmps6
  go_wp2_with fail
  refine (szIntS_any ao N cap left HN.out HLF.out _).mono ?_
  rintro e w1 ⟨rfl, hw1⟩
  rw [HE.out]
  have hb1 : Below w.heap.size w w1 := by rw [hw1]; exact (Below.refl _ _).alloc (Nat.le_refl _) _
  have q1 : ∀ o, w1.cell? ⟨w.heap.size, o, none⟩ = (#[.slice ao N cap, .slice yo M ycap, .int .i64 mk] : Array Value)[o]? := fun o => by rw [hw1]; exact World.cell?_alloc_new w _ _ o
  have HB1 : Hid (Below w.heap.size w w1) := hb1
  clear hw1 hb1
  by_cases hy : y < 0
  · have e : y = -1 := by omega
    subst e
    go_wp2_with fail
    go_ret
    exact ⟨-1, rfl, HB1.out, by omega, fun h => absurd h (by decide)⟩
  · have hy0 : 0 ≤ y := by omega
    obtain ⟨hy1, hy2⟩ := HY.out hy0
    have HB2 : Hid (0 ≤ y ∧ y ≤ 1048576) := by show _ ∧ _; omega
    have hge2 := szI_ge M y
    obtain ⟨z, hzz⟩ : ∃ z, szI M y = z := ⟨_, rfl⟩
    have HZ : Hid (szI M y = z) := hzz
    have HFE : Hid (0 ≤ z → Few N M ∧ z + N + M ≤ left) := fun h => by
      unfold szI at hzz
      unfold Few
      split at hzz <;> omega
    rw [hzz] at hge2
    clear hzz hy1 hy2
    go_wp2_with fail
    refine (szIntS_any yo M ycap y HM.out HB2.out _).mono ?_
    rintro e w2 ⟨rfl, hw2⟩
    obtain rfl := hw2.symm
    rw [HZ.out]
    by_cases hz : z < 0
    · have e : z = -1 := by omega
      subst e
      go_wp2_with fail
      go_ret
      exact ⟨-1, rfl, HB1.out, by omega, fun h => absurd h (by decide)⟩
    · go_wp2_with fail
      go_ret
      exact ⟨z, rfl, HB1.out, hge2, HFE.out⟩
end Go.Proofs.YtjjmikfbongccaaGreatDoor.Gn
namespace Go.Proofs.YtjjmikfbongccaaGreatDoor.fnExactCellOk
open Go.RowKit Go.Proofs.YtjjmikfbongccaaGreatDoor Go.Proofs.YtjjmikfbongccaaGreatDoor.Gn Go.Proofs.YtjjmikfbongccaaGreatDoor.Code
set_option linter.unusedVariables false

/-- The boxes of the arguments, all the way. -/
structure Aw (w wc : World) (cs0 cs1 : Array Value) : Prop where
  be : Below w.heap.size w wc
  q0 : ∀ o, wc.cell? ⟨w.heap.size, o, none⟩ = cs0[o]?
  q1 : ∀ o, wc.cell? ⟨w.heap.size + 1, o, none⟩ = cs1[o]?
  lt : w.heap.size + 1 < wc.heap.size
theorem Aw.next {w wc w' : World} {cs0 cs1 : Array Value} (x : Aw w wc cs0 cs1) (hb : Below wc.heap.size wc w') : Aw w w' cs0 cs1 := by
  have hl := x.lt
  exact ⟨x.be.trans (hb.mono x.be.size), fun o => by rw [hb.cell (p := ⟨w.heap.size, o, none⟩) (by show w.heap.size < _; omega)]; exact x.q0 o, fun o => by rw [hb.cell (p := ⟨w.heap.size + 1, o, none⟩) x.lt]; exact x.q1 o, Nat.lt_of_lt_of_le x.lt hb.size⟩
theorem Aw.new (w : World) (cs0 cs1 : Array Value) (t0 t1 : TypeId) : Aw w ((w.alloc (.cells cs0 t0)).alloc (.cells cs1 t1)) cs0 cs1 := by
  have hb : Below (w.alloc (.cells cs0 t0)).heap.size (w.alloc (.cells cs0 t0)) ((w.alloc (.cells cs0 t0)).alloc (.cells cs1 t1)) := (Below.refl _ _).alloc (Nat.le_refl _) _
  have hs : (w.alloc (.cells cs0 t0)).heap.size = w.heap.size + 1 := World.size_alloc _ _
  refine ⟨((Below.refl _ _).alloc (Nat.le_refl _) _).alloc (by simp) _, fun o => ?_, fun o => ?_, by simp only [World.size_alloc]; omega⟩
  · rw [hb.cell (p := ⟨w.heap.size, o, none⟩) (by show w.heap.size < _; omega)]; exact World.cell?_alloc_new w _ _ o
  · rw [← hs]; exact World.cell?_alloc_new _ _ _ o
/-- What has been copied so far. -/
structure Sx (w wc : World) (cs0 cs1 : Array Value) (l : List I) (C : Ce) (GN GM : Nat) (gf gy : Nat → Int) (L : List ByteArray) (oi : Option Nat) (oc : Option (Nat × Nat × Nat)) (og : Option (Nat × Nat)) (os : Option Nat) : Prop where
  aw : Aw w wc cs0 cs1
  ri : ∀ i, oi = some i → RowI wc (some ⟨i, 0, none⟩) l
  ci : ∀ x y z, oc = some (x, y, z) → CI wc C x y z ∧ z < wc.heap.size
  ig : ∀ g u, og = some (g, u) → IG wc g u GN GM gf gy ∧ u < wc.heap.size
  st : ∀ s, os = some s → Sts wc s L.length (lf L) ∧ s < wc.heap.size
theorem Sx.next {w wc w' : World} {cs0 cs1 : Array Value} {l : List I} {C : Ce} {GN GM : Nat} {gf gy : Nat → Int} {L : List ByteArray} {oi : Option Nat} {oc : Option (Nat × Nat × Nat)} {og : Option (Nat × Nat)} {os : Option Nat} (h : Sx w wc cs0 cs1 l C GN GM gf gy L oi oc og os) (hb : Below wc.heap.size wc w') : Sx w w' cs0 cs1 l C GN GM gf gy L oi oc og os :=
  ⟨h.aw.next hb, fun i e => (h.ri i e).below hb, fun x y z e => ⟨(h.ci x y z e).1.below (h.ci x y z e).2 hb, Nat.lt_of_lt_of_le (h.ci x y z e).2 hb.size⟩, fun g u e => ⟨(h.ig g u e).1.below hb (h.ig g u e).2, Nat.lt_of_lt_of_le (h.ig g u e).2 hb.size⟩, fun s e => ⟨(h.st s e).1.below hb (h.st s e).2, Nat.lt_of_lt_of_le (h.st s e).2 hb.size⟩⟩
theorem Sx.start {w wc : World} {cs0 cs1 : Array Value} {l : List I} {C : Ce} {GN GM : Nat} {gf gy : Nat → Int} {L : List ByteArray} (h : Aw w wc cs0 cs1) : Sx w wc cs0 cs1 l C GN GM gf gy L none none none none :=
  ⟨h, fun _ e => (nomatch e), fun _ _ _ e => (nomatch e), fun _ _ e => (nomatch e), fun _ e => (nomatch e)⟩

set_option maxHeartbeats 8000000 in
set_option maxRecDepth 100000 in
theorem walk (l : List I) (lo : Option Addr) (lcap : Nat) (c : Ce) (h : Cw) (ao : Option Addr) (GN gcap : Nat) (gf : Nat → Int) (yo : Option Addr) (GM ycap : Nat) (gy : Nat → Int) (mk : Int) (av : Option Addr) (acap : Nat) (L : List ByteArray) (w : World)
    (hl : RowI w lo l) (hsm : SmI maxLen l) (hll : l.length ≤ maxLen) (hr : CeR w c h) (h1 : c.R ≤ maxLen) (h2 : c.B ≤ maxLen) (h3 : c.N ≤ maxLen) (hbig : CeW c) (hg : RdG w ao GN gf yo GM gy) (hN : GN ≤ maxLen) (hM : GM ≤ maxLen) (hf : ∀ j, gf j ≤ 9223372036854775807) (hfy : ∀ j, gy j ≤ 9223372036854775807) (hT : RdT w av L) (hL : L.length ≤ maxLen) (hs : ∀ x ∈ L, x.size ≤ maxLen)
    (hS : Shp w) (hP : Pow w) (hE : Es.Ety w) :
    Calls Tryz.prog 3 #[.slice lo l.length lcap, ceV c h, .agg #[.slice ao GN gcap, .slice yo GM ycap, .int .i64 mk], .slice av L.length acap] w fun e w' => e = .returned (.bool true) ∧ Below w.heap.size w w' := by
  obtain ⟨pid, pc, R, r, B, b, N, f, ha⟩ := c
  obtain ⟨ra, rc, ba, bc, la, lc⟩ := h
  show Calls Tryz.prog 3 #[.slice lo l.length lcap, .agg #[.int .i64 pid, .int .i64 pc, .slice ra R rc, .slice ba B bc, .slice la N lc, .int .i64 ha], .agg #[.slice ao GN gcap, .slice yo GM ycap, .int .i64 mk], .slice av L.length acap] w _
  generalize hC : (⟨pid, pc, R, r, B, b, N, f, ha⟩ : Ce) = C at *
  generalize hH : (⟨ra, rc, ba, bc, la, lc⟩ : Cw) = H at *
  have HR : Hid (CeR w C H) := hr
  have HGI : Hid (RdG w ao GN gf yo GM gy) := hg
  have HT : Hid (RdT w av L) := hT
  have HW0 : Hid (Aw w ((w.alloc (.cells #[.int .i64 pid, .int .i64 pc, .slice ra R rc, .slice ba B bc, .slice la N lc, .int .i64 ha] 25)).alloc (.cells #[.slice ao GN gcap, .slice yo GM ycap, .int .i64 mk] 27)) #[.int .i64 pid, .int .i64 pc, .slice ra R rc, .slice ba B bc, .slice la N lc, .int .i64 ha] #[.slice ao GN gcap, .slice yo GM ycap, .int .i64 mk]) := Aw.new w _ _ _ _
  have HSI : Hid (∀ wc, Aw w wc #[.int .i64 pid, .int .i64 pc, .slice ra R rc, .slice ba B bc, .slice la N lc, .int .i64 ha] #[.slice ao GN gcap, .slice yo GM ycap, .int .i64 mk] → Calls Tryz.prog 4 #[.slice lo l.length lcap, .int .i64 1048576] wc fun e w' => (∃ r : Int, e = .returned (.int .i64 r) ∧ r ≤ 1048576 ∧ (0 ≤ r → l.length ≤ 1048576)) ∧ Aw w w' #[.int .i64 pid, .int .i64 pc, .slice ra R rc, .slice ba B bc, .slice la N lc, .int .i64 ha] #[.slice ao GN gcap, .slice yo GM ycap, .int .i64 mk]) := fun wc x =>
    (szInsS_le l lo lcap wc (hl.below x.be) hsm hll).mono fun e w' ⟨⟨r, k1, k2, k3⟩, k4⟩ => ⟨⟨r, k1, k2, fun k => (k3 k).1⟩, x.next k4⟩
  have HSZ : Hid (∀ wc left, 0 ≤ left → left ≤ 1048576 → Aw w wc #[.int .i64 pid, .int .i64 pc, .slice ra R rc, .slice ba B bc, .slice la N lc, .int .i64 ha] #[.slice ao GN gcap, .slice yo GM ycap, .int .i64 mk] → Calls Tryz.prog 5 #[.agg #[.int .i64 pid, .int .i64 pc, .slice ra R rc, .slice ba B bc, .slice la N lc, .int .i64 ha], .int .i64 left] wc fun e w' => (∃ r : Int, e = .returned (.int .i64 r) ∧ -1 ≤ r ∧ r ≤ left ∧ (0 ≤ r → CeS C)) ∧ Aw w w' #[.int .i64 pid, .int .i64 pc, .slice ra R rc, .slice ba B bc, .slice la N lc, .int .i64 ha] #[.slice ao GN gcap, .slice yo GM ycap, .int .i64 mk]) := fun wc left k0 k1 x => by
    have := szCell_any C H left wc h1 h2 h3 k0 k1
    rw [← hC, ← hH] at this
    exact this.mono fun e w' ⟨k1, k2⟩ => ⟨hC ▸ k1, x.next k2⟩
  have HSG : Hid (∀ wc left, 0 ≤ left → left ≤ 1048576 → Aw w wc #[.int .i64 pid, .int .i64 pc, .slice ra R rc, .slice ba B bc, .slice la N lc, .int .i64 ha] #[.slice ao GN gcap, .slice yo GM ycap, .int .i64 mk] → Calls Tryz.prog 6 #[.agg #[.slice ao GN gcap, .slice yo GM ycap, .int .i64 mk], .int .i64 left] wc fun e w' => (∃ y : Int, e = .returned (.int .i64 y) ∧ -1 ≤ y ∧ (0 ≤ y → Few GN GM ∧ y + GN + GM ≤ left)) ∧ Aw w w' #[.int .i64 pid, .int .i64 pc, .slice ra R rc, .slice ba B bc, .slice la N lc, .int .i64 ha] #[.slice ao GN gcap, .slice yo GM ycap, .int .i64 mk]) := fun wc left k0 k1 x =>
    (szGens_L ao GN gcap yo GM ycap mk left hN hM ⟨k0, k1⟩ wc).mono fun e w' ⟨y, k1, k2, k3, k4⟩ => ⟨⟨y, k1, k3, k4⟩, x.next k2⟩
  have HSS : Hid (∀ wc left, 0 ≤ left → left ≤ 1048576 → Aw w wc #[.int .i64 pid, .int .i64 pc, .slice ra R rc, .slice ba B bc, .slice la N lc, .int .i64 ha] #[.slice ao GN gcap, .slice yo GM ycap, .int .i64 mk] → Calls Tryz.prog 7 #[.slice av L.length acap, .int .i64 left] wc fun e w' => ∃ y : Int, e = .returned (.int .i64 y) ∧ w' = wc ∧ -1 ≤ y ∧ (0 ≤ y → L.length ≤ 1048576 ∧ ∀ x ∈ L, x.size ≤ 1048576)) := fun wc left k0 k1 x =>
    szStr2_any av acap L wc (HT.out.below x.be) hL hs left k0 k1
  have HTI : Hid (l.length ≤ 1048576 → ∀ wc oc og os, Sx w wc #[.int .i64 pid, .int .i64 pc, .slice ra R rc, .slice ba B bc, .slice la N lc, .int .i64 ha] #[.slice ao GN gcap, .slice yo GM ycap, .int .i64 mk] l C GN GM gf gy L none oc og os → Calls Tryz.prog 9 #[.slice lo l.length lcap] wc fun e w' => ∃ i, e = .returned (.slice (some ⟨i, 0, none⟩) l.length l.length) ∧ Sx w w' #[.int .i64 pid, .int .i64 pc, .slice ra R rc, .slice ba B bc, .slice la N lc, .int .i64 ha] #[.slice ao GN gcap, .slice yo GM ycap, .int .i64 mk] l C GN GM gf gy L (some i) oc og os ∧ Below wc.heap.size wc w') := fun hLn wc oc og os x => by
    refine (toInsS_any l lo lcap wc (hl.below x.aw.be) hLn).mono fun e w' ⟨⟨i, _, k1, k2⟩, k5⟩ => ⟨i, k1, ?_, k5⟩
    have k := x.next k5
    exact ⟨k.aw, fun j e => by simp only [Option.some.injEq] at e; subst e; exact k2, k.ci, k.ig, k.st⟩
  have HTC : Hid (CeS C → ∀ wc oi og os, Sx w wc #[.int .i64 pid, .int .i64 pc, .slice ra R rc, .slice ba B bc, .slice la N lc, .int .i64 ha] #[.slice ao GN gcap, .slice yo GM ycap, .int .i64 mk] l C GN GM gf gy L oi none og os → Calls Tryz.prog 10 #[.agg #[.int .i64 pid, .int .i64 pc, .slice ra R rc, .slice ba B bc, .slice la N lc, .int .i64 ha]] wc fun e w' => ∃ x y z, e = .returned (.agg #[.int .i64 pid, .int .i64 pc, .slice (some ⟨x, 0, none⟩) R R, .slice (some ⟨y, 0, none⟩) B B, .slice (some ⟨z, 0, none⟩) N N, .int .i64 ha]) ∧ Sx w w' #[.int .i64 pid, .int .i64 pc, .slice ra R rc, .slice ba B bc, .slice la N lc, .int .i64 ha] #[.slice ao GN gcap, .slice yo GM ycap, .int .i64 mk] l C GN GM gf gy L oi (some (x, y, z)) og os ∧ Below wc.heap.size wc w') := fun hS wc oi og os x => by
    have := toCell_any C H wc (HR.out.below x.aw.be) hS
    rw [← hC, ← hH] at this
    refine this.mono fun e w' ⟨x', y, z, k1, k2, k3, k4, k5⟩ => ⟨x', y, z, k1, ?_, k5⟩
    have k := x.next k5
    exact ⟨k.aw, k.ri, fun a b c e => by simp only [Option.some.injEq, Prod.mk.injEq] at e; obtain ⟨rfl, rfl, rfl⟩ := e; exact ⟨hC ▸ k4, k3⟩, k.ig, k.st⟩
  have HTG : Hid (Few GN GM → ∀ wc oi oc os, Sx w wc #[.int .i64 pid, .int .i64 pc, .slice ra R rc, .slice ba B bc, .slice la N lc, .int .i64 ha] #[.slice ao GN gcap, .slice yo GM ycap, .int .i64 mk] l C GN GM gf gy L oi oc none os → Calls Tryz.prog 11 #[.agg #[.slice ao GN gcap, .slice yo GM ycap, .int .i64 mk]] wc fun e w' => ∃ g u, e = .returned (.agg #[.slice (some ⟨g, 0, none⟩) GN GN, .slice (some ⟨u, 0, none⟩) GM GM, .int .i64 mk]) ∧ Sx w w' #[.int .i64 pid, .int .i64 pc, .slice ra R rc, .slice ba B bc, .slice la N lc, .int .i64 ha] #[.slice ao GN gcap, .slice yo GM ycap, .int .i64 mk] l C GN GM gf gy L oi oc (some (g, u)) os ∧ Below wc.heap.size wc w') := fun hF wc oi oc os x => by
    refine (toGens_any ao GN gcap gf yo GM ycap gy mk wc (HGI.out.below x.aw.be) hF).mono fun e w' ⟨g, u, k1, k2, k3, k4, k5⟩ => ⟨g, u, k1, ?_, k5⟩
    have k := x.next k5
    exact ⟨k.aw, k.ri, k.ci, fun a b e => by simp only [Option.some.injEq, Prod.mk.injEq] at e; obtain ⟨rfl, rfl⟩ := e; exact ⟨k3, k4⟩, k.st⟩
  have HTS : Hid (L.length ≤ 1048576 → ∀ wc oi oc og, Sx w wc #[.int .i64 pid, .int .i64 pc, .slice ra R rc, .slice ba B bc, .slice la N lc, .int .i64 ha] #[.slice ao GN gcap, .slice yo GM ycap, .int .i64 mk] l C GN GM gf gy L oi oc og none → Calls Tryz.prog 12 #[.slice av L.length acap] wc fun e w' => ∃ s, e = .returned (.slice (some ⟨s, 0, none⟩) L.length L.length) ∧ Sx w w' #[.int .i64 pid, .int .i64 pc, .slice ra R rc, .slice ba B bc, .slice la N lc, .int .i64 ha] #[.slice ao GN gcap, .slice yo GM ycap, .int .i64 mk] l C GN GM gf gy L oi oc og (some s) ∧ Below wc.heap.size wc w') := fun hF wc oi oc og x => by
    refine (toStr_any av acap L wc (HT.out.below x.aw.be) hF).mono fun e w' ⟨k1, k2, k3, k5⟩ => ⟨wc.heap.size, k1, ?_, k5⟩
    have k := x.next k5
    exact ⟨k.aw, k.ri, k.ci, k.ig, fun a e => by simp only [Option.some.injEq] at e; subst e; exact ⟨k2, k3⟩⟩
  have hKK : ∀ g u s g' u' s', ceB l C (geO GN gf GM gy mk L g u s) = ceB l C (geO GN gf GM gy mk L g' u' s') := fun _ _ _ _ _ _ => rfl
  obtain ⟨K, hK⟩ : ∃ K, ceB l C (geO GN gf GM gy mk L 0 0 0) = K := ⟨_, rfl⟩
  have HSP : Hid (l.length ≤ 1048576 → CeS C → Few GN GM → L.length ≤ 1048576 → (∀ x ∈ L, x.size ≤ 1048576) → ∀ wc i x y z g u s, Sx w wc #[.int .i64 pid, .int .i64 pc, .slice ra R rc, .slice ba B bc, .slice la N lc, .int .i64 ha] #[.slice ao GN gcap, .slice yo GM ycap, .int .i64 mk] l C GN GM gf gy L (some i) (some (x, y, z)) (some (g, u)) (some s) → Calls Tryz.prog 8 #[.slice (some ⟨i, 0, none⟩) l.length l.length, .agg #[.int .i64 pid, .int .i64 pc, .slice (some ⟨x, 0, none⟩) R R, .slice (some ⟨y, 0, none⟩) B B, .slice (some ⟨z, 0, none⟩) N N, .int .i64 ha], .agg #[.slice (some ⟨g, 0, none⟩) GN GN, .slice (some ⟨u, 0, none⟩) GM GM, .int .i64 mk], .slice (some ⟨s, 0, none⟩) L.length L.length] wc fun e w' => e = .returned (.bool K) ∧ Aw w w' #[.int .i64 pid, .int .i64 pc, .slice ra R rc, .slice ba B bc, .slice la N lc, .int .i64 ha] #[.slice ao GN gcap, .slice yo GM ycap, .int .i64 mk] ∧ Below wc.heap.size wc w') := fun hln hS2 hF hLn hLs wc i x y z g u s k => by
    have hcat := (k.ci x y z rfl).1.cat
    have hlr := (k.ci x y z rfl).1.l.rdI
    rw [← hC] at hcat hS2 hlr hbig
    have := specCellOk_any l (some ⟨i, 0, none⟩) l.length (geO GN gf GM gy mk L g u s) pid pc R r B b N f ha x 0 R y 0 B (some ⟨z, 0, none⟩) N wc (k.ri i rfl) hsm hln hlr (gsrcO (k.ig g u rfl).1 (k.st s rfl).1.txt hF hLn hf hfy hLs) hcat hS2 hbig
    refine this.mono fun e w' ⟨k1, k2⟩ => ⟨?_, k.aw.next k2, k2⟩
    rw [k1, ← hK, ← hC]; rfl
  have HIM : Hid (l.length ≤ 1048576 → CeS C → Few GN GM → L.length ≤ 1048576 → (∀ x ∈ L, x.size ≤ 1048576) → ∀ wc i x y z g u s, Sx w wc #[.int .i64 pid, .int .i64 pc, .slice ra R rc, .slice ba B bc, .slice la N lc, .int .i64 ha] #[.slice ao GN gcap, .slice yo GM ycap, .int .i64 mk] l C GN GM gf gy L (some i) (some (x, y, z)) (some (g, u)) (some s) → Calls Tryz.prog 13 #[.slice (some ⟨i, 0, none⟩) l.length l.length, .agg #[.int .i64 pid, .int .i64 pc, .slice (some ⟨x, 0, none⟩) R R, .slice (some ⟨y, 0, none⟩) B B, .slice (some ⟨z, 0, none⟩) N N, .int .i64 ha], .agg #[.slice (some ⟨g, 0, none⟩) GN GN, .slice (some ⟨u, 0, none⟩) GM GM, .int .i64 mk], .slice (some ⟨s, 0, none⟩) L.length L.length] wc fun e w' => e = .returned (.bool K) ∧ Sx w w' #[.int .i64 pid, .int .i64 pc, .slice ra R rc, .slice ba B bc, .slice la N lc, .int .i64 ha] #[.slice ao GN gcap, .slice yo GM ycap, .int .i64 mk] l C GN GM gf gy L (some i) (some (x, y, z)) (some (g, u)) (some s) ∧ Below wc.heap.size wc w') := fun hln hS2 hF hLn hLs wc i x y z g u s k => by
    have hcat := (k.ci x y z rfl).1.cat
    have hlr := (k.ci x y z rfl).1.l.rdI
    rw [← hC] at hcat hS2 hlr hbig
    have := implCellOk_any l (some ⟨i, 0, none⟩) l.length (geO GN gf GM gy mk L g u s) pid pc R r B b N f ha x 0 R y 0 B (some ⟨z, 0, none⟩) N wc (k.ri i rfl) hsm hln hlr (hS.below k.aw.be) (hP.below k.aw.be) (hE.below k.aw.be) (gsrcO (k.ig g u rfl).1 (k.st s rfl).1.txt hF hLn hf hfy hLs) hcat hS2 hbig
    refine this.mono fun e w' ⟨k1, k2⟩ => ⟨?_, k.next k2, k2⟩
    rw [k1, ← hK, ← hC]; rfl
  have HEC : Hid (CeS C → ∀ wc x y z x' y' z', CI wc C x y z → CI wc C x' y' z' → Calls Tryz.prog 15 #[.agg #[.int .i64 pid, .int .i64 pc, .slice (some ⟨x, 0, none⟩) R R, .slice (some ⟨y, 0, none⟩) B B, .slice (some ⟨z, 0, none⟩) N N, .int .i64 ha], .agg #[.int .i64 pid, .int .i64 pc, .slice (some ⟨x', 0, none⟩) R R, .slice (some ⟨y', 0, none⟩) B B, .slice (some ⟨z', 0, none⟩) N N, .int .i64 ha]] wc fun e w' => e = .returned (.bool true) ∧ Below wc.heap.size wc w') := fun hS wc x y z x' y' z' k k' => by
    have := eqCell_same C _ _ wc (k.rd C.R C.B C.N) (k'.rd C.R C.B C.N) hS
    rw [← hC] at this
    exact this
  clear hl hsm hll hr h1 h2 h3 hbig hg hN hM hf hfy hT hL hs hC hH hK hKK hS hP hE
  go_enter Tryz.func3, Tryz.ntmps3
  go_wp2_with (go_at_call 4; fail)
  refine (HSI.out _ HW0.out).mono ?_
  rintro e w1 ⟨⟨r0, rfl, hr1, hri⟩, hw1⟩
  have HW1 : Hid (Aw w w1 #[.int .i64 pid, .int .i64 pc, .slice ra R rc, .slice ba B bc, .slice la N lc, .int .i64 ha] #[.slice ao GN gcap, .slice yo GM ycap, .int .i64 mk]) := hw1
  have HI1 : Hid (0 ≤ r0 → l.length ≤ 1048576) := hri
  have q0 := hw1.q0
  clear hw1 hri
  by_cases h0 : r0 < 0
  · clear q0
    go_wp2
    go_ret
    exact ⟨rfl, HW1.out.be⟩
  have HLI : Hid (l.length ≤ 1048576) := HI1.out (by omega)
  clear HI1
  go_wp2_with (go_at_call 5; fail)
  clear q0
  refine (HSZ.out _ r0 (by omega) hr1 HW1.out).mono ?_
  rintro e w2 ⟨⟨r1, rfl, hr2, hr3, hrs⟩, hw2⟩
  have HW2 : Hid (Aw w w2 #[.int .i64 pid, .int .i64 pc, .slice ra R rc, .slice ba B bc, .slice la N lc, .int .i64 ha] #[.slice ao GN gcap, .slice yo GM ycap, .int .i64 mk]) := hw2
  have HS1 : Hid (0 ≤ r1 → CeS C) := hrs
  have q1 := hw2.q1
  clear hw2 hrs
  by_cases h1 : r1 < 0
  · clear q1
    go_wp2
    go_ret
    exact ⟨rfl, HW2.out.be⟩
  have HS : Hid (CeS C) := HS1.out (by omega)
  have HLE1 : Hid (r1 ≤ 1048576) := by show _ ≤ _; omega
  clear HS1
  go_wp2_with (go_at_call 6; fail)
  clear q1
  refine (HSG.out _ r1 (by omega) HLE1.out HW2.out).mono ?_
  rintro e w3 ⟨⟨r2, rfl, hr4, hrf⟩, hw3⟩
  have HW3 : Hid (Aw w w3 #[.int .i64 pid, .int .i64 pc, .slice ra R rc, .slice ba B bc, .slice la N lc, .int .i64 ha] #[.slice ao GN gcap, .slice yo GM ycap, .int .i64 mk]) := hw3
  have HF1 : Hid (0 ≤ r2 → Few GN GM ∧ r2 + GN + GM ≤ r1) := hrf
  clear hw3 hrf
  by_cases h2 : r2 < 0
  · go_wp2
    go_ret
    exact ⟨rfl, HW3.out.be⟩
  have HF : Hid (Few GN GM) := (HF1.out (by omega)).1
  have hr5 := (HF1.out (by omega)).2
  have HLE : Hid (r2 ≤ 1048576) := by have := HLE1.out; show _ ≤ _; omega
  clear HF1 hr5
  go_wp2_with (go_at_call 7; fail)
  refine (HSS.out _ r2 (by omega) HLE.out HW3.out).mono ?_
  rintro e w4 ⟨r3, rfl, hw4, hr6, hrl⟩
  obtain rfl := hw4.symm
  have HL1 : Hid (0 ≤ r3 → L.length ≤ 1048576 ∧ ∀ x ∈ L, x.size ≤ 1048576) := hrl
  clear hrl
  by_cases h3 : r3 < 0
  · go_wp2
    go_ret
    exact ⟨rfl, HW3.out.be⟩
  have HL : Hid (L.length ≤ 1048576) := (HL1.out (by omega)).1
  have HLS : Hid (∀ x ∈ L, x.size ≤ 1048576) := (HL1.out (by omega)).2
  clear HL1 h0 h1 h2 hr1 hr2 hr3 hr4 hr6 HLE HLE1
  have q0 := HW3.out.q0
  have q1 := HW3.out.q1
  have HD0 : Sx w w3.drew #[.int .i64 pid, .int .i64 pc, .slice ra R rc, .slice ba B bc, .slice la N lc, .int .i64 ha] #[.slice ao GN gcap, .slice yo GM ycap, .int .i64 mk] l C GN GM gf gy L none none none none := (Sx.start HW3.out).next (Below.refl _ _).drew
  go_wp2_with fail
  go_cut [10] from 36 to 44 (fun v10 wx => v10 = .bool K ∧ Aw w wx #[.int .i64 pid, .int .i64 pc, .slice ra R rc, .slice ba B bc, .slice la N lc, .int .i64 ha] #[.slice ao GN gcap, .slice yo GM ycap, .int .i64 mk])
  case first =>
    go_region_law (go_simp; go_wp2_with (first
      | (go_at_call 9; refine (HTI.out HLI.out _ none none none HD0).mono ?_; rintro e wI ⟨i, rfl, sI, bI⟩; have q0I := sI.aw.q0; have q1I := sI.aw.q1)
      | (go_at_call 10; refine (HTC.out HS.out _ _ none none sI).mono ?_; rintro e wC ⟨x, y, z, rfl, sC, bC⟩; have q1C := sC.aw.q1)
      | (go_at_call 11; refine (HTG.out HF.out _ _ _ none sC).mono ?_; rintro e wG ⟨g, u, rfl, sG, bG⟩)
      | (go_at_call 12; refine (HTS.out HL.out _ _ _ _ sG).mono ?_; rintro e wS ⟨s, rfl, sS, bS⟩)
      | (go_at_call 8; refine (HSP.out HLI.out HS.out HF.out HL.out HLS.out _ _ _ _ _ _ _ _ sS).mono ?_; rintro e w5 ⟨rfl, haw, b5⟩; have HFN : Hid (Aw w w5 #[.int .i64 pid, .int .i64 pc, .slice ra R rc, .slice ba B bc, .slice la N lc, .int .i64 ha] #[.slice ao GN gcap, .slice yo GM ycap, .int .i64 mk]) := haw)))
    all_goals
      clear haw b5 sI bI sC bC sG bG sS bS
      go_wp2_with fail
      go_meet
      case rel => exact ⟨rfl, HFN.out⟩
  case rest =>
    obtain ⟨w7, hw7⟩ : ∃ w7, w7 = wc := ⟨_, rfl⟩
    obtain rfl := hw7
    obtain ⟨rfl, haw⟩ := hcut
    have HA7 : Hid (Aw w w7 #[.int .i64 pid, .int .i64 pc, .slice ra R rc, .slice ba B bc, .slice la N lc, .int .i64 ha] #[.slice ao GN gcap, .slice yo GM ycap, .int .i64 mk]) := haw
    clear haw q0 q1 HD0
    go_wp2_with (go_at_call 9; fail)
    refine (HTI.out HLI.out _ none none none (Sx.start HA7.out)).mono ?_
    rintro e w8 ⟨i, rfl, s8, b8⟩
    have HS8 : Hid (Sx w w8 #[.int .i64 pid, .int .i64 pc, .slice ra R rc, .slice ba B bc, .slice la N lc, .int .i64 ha] #[.slice ao GN gcap, .slice yo GM ycap, .int .i64 mk] l C GN GM gf gy L (some i) none none none) := s8
    have q0 := s8.aw.q0
    clear s8 b8
    go_wp2_with (go_at_call 10; fail)
    clear q0
    refine (HTC.out HS.out _ _ none none HS8.out).mono ?_
    rintro e w9 ⟨x, y, z, rfl, s9, b9⟩
    obtain ⟨W9, hW9⟩ : ∃ W9, W9 = w9.alloc (.cells #[.int .i64 pid, .int .i64 pc, .slice (some ⟨x, 0, none⟩) R R, .slice (some ⟨y, 0, none⟩) B B, .slice (some ⟨z, 0, none⟩) N N, .int .i64 ha] 36) := ⟨_, rfl⟩
    have k9 : Below w9.heap.size w9 W9 := by rw [hW9]; exact (Below.refl _ _).alloc (Nat.le_refl _) _
    have HS9 : Hid (Sx w W9 #[.int .i64 pid, .int .i64 pc, .slice ra R rc, .slice ba B bc, .slice la N lc, .int .i64 ha] #[.slice ao GN gcap, .slice yo GM ycap, .int .i64 mk] l C GN GM gf gy L (some i) (some (x, y, z)) none none) := s9.next k9
    have HQ9 : Hid (∀ w', Below W9.heap.size W9 w' → ∀ o, w'.cell? ⟨w9.heap.size, o, none⟩ = (#[.int .i64 pid, .int .i64 pc, .slice (some ⟨x, 0, none⟩) R R, .slice (some ⟨y, 0, none⟩) B B, .slice (some ⟨z, 0, none⟩) N N, .int .i64 ha] : Array Value)[o]?) := fun w' hb o => by
      rw [hb.cell (p := ⟨w9.heap.size, o, none⟩) (by rw [hW9, World.size_alloc]; show w9.heap.size < _; omega), hW9]; exact World.cell?_alloc_new w9 _ _ o
    have q1 := HS9.out.aw.q1
    rw [hW9] at q1
    clear s9 b9 k9
    go_wp2_with (go_at_call 11; fail)
    rw [← hW9]
    clear hW9 q1
    refine (HTG.out HF.out _ _ _ none HS9.out).mono ?_
    rintro e wA ⟨g, u, rfl, sA, bA⟩
    obtain ⟨WA, hWA⟩ : ∃ WA, WA = wA.alloc (.cells #[.slice (some ⟨g, 0, none⟩) GN GN, .slice (some ⟨u, 0, none⟩) GM GM, .int .i64 mk] 38) := ⟨_, rfl⟩
    have kA : Below wA.heap.size wA WA := by rw [hWA]; exact (Below.refl _ _).alloc (Nat.le_refl _) _
    have HSA : Hid (Sx w WA #[.int .i64 pid, .int .i64 pc, .slice ra R rc, .slice ba B bc, .slice la N lc, .int .i64 ha] #[.slice ao GN gcap, .slice yo GM ycap, .int .i64 mk] l C GN GM gf gy L (some i) (some (x, y, z)) (some (g, u)) none) := sA.next kA
    have HBA : Hid (Below W9.heap.size W9 WA) := bA.trans (kA.mono bA.size)
    have HQA : Hid (∀ w', Below WA.heap.size WA w' → ∀ o, w'.cell? ⟨wA.heap.size, o, none⟩ = (#[.slice (some ⟨g, 0, none⟩) GN GN, .slice (some ⟨u, 0, none⟩) GM GM, .int .i64 mk] : Array Value)[o]?) := fun w' hb o => by
      rw [hb.cell (p := ⟨wA.heap.size, o, none⟩) (by rw [hWA, World.size_alloc]; show wA.heap.size < _; omega), hWA]; exact World.cell?_alloc_new wA _ _ o
    clear sA bA kA
    go_wp2_with (go_at_call 12; fail)
    rw [← hWA]
    clear hWA
    refine (HTS.out HL.out _ _ _ _ HSA.out).mono ?_
    rintro e wB ⟨s, rfl, sB, bB⟩
    have HSB : Hid (Sx w wB #[.int .i64 pid, .int .i64 pc, .slice ra R rc, .slice ba B bc, .slice la N lc, .int .i64 ha] #[.slice ao GN gcap, .slice yo GM ycap, .int .i64 mk] l C GN GM gf gy L (some i) (some (x, y, z)) (some (g, u)) (some s)) := sB
    have HBB : Hid (Below WA.heap.size WA wB ∧ Below W9.heap.size W9 wB) := ⟨bB, HBA.out.trans (bB.mono HBA.out.size)⟩
    have q9 := HQ9.out wB HBB.out.2
    have qA := HQA.out wB HBB.out.1
    clear sB bB
    go_wp2_with (go_at_call 13; fail)
    clear q9 qA
    refine (HIM.out HLI.out HS.out HF.out HL.out HLS.out _ i x y z g u s HSB.out).mono ?_
    rintro e wD ⟨rfl, sD, bD⟩
    have HSD : Hid (Sx w wD #[.int .i64 pid, .int .i64 pc, .slice ra R rc, .slice ba B bc, .slice la N lc, .int .i64 ha] #[.slice ao GN gcap, .slice yo GM ycap, .int .i64 mk] l C GN GM gf gy L (some i) (some (x, y, z)) (some (g, u)) (some s)) := sD
    have HBD : Hid (Below WA.heap.size WA wD ∧ Below W9.heap.size W9 wD) := ⟨HBB.out.1.trans (bD.mono HBB.out.1.size), HBB.out.2.trans (bD.mono HBB.out.2.size)⟩
    have hne : (K != K) = false := by cases K <;> rfl
    clear sD bD
    go_wp2_with (go_at_call 9; fail)
    refine (HTI.out HLI.out _ none none none (Sx.start HSD.out.aw)).mono ?_
    rintro e wE ⟨i', rfl, sE, bE⟩
    have HSE : Hid (Sx w wE #[.int .i64 pid, .int .i64 pc, .slice ra R rc, .slice ba B bc, .slice la N lc, .int .i64 ha] #[.slice ao GN gcap, .slice yo GM ycap, .int .i64 mk] l C GN GM gf gy L (some i) (some (x, y, z)) (some (g, u)) (some s) ∧ RowI wE (some ⟨i', 0, none⟩) l) := ⟨HSD.out.next bE, sE.ri i' rfl⟩
    have HBE : Hid (Below WA.heap.size WA wE ∧ Below W9.heap.size W9 wE) := ⟨HBD.out.1.trans (bE.mono HBD.out.1.size), HBD.out.2.trans (bE.mono HBD.out.2.size)⟩
    clear sE bE hne
    go_wp2_with (go_at_call 14; fail)
    refine (eqInsS_same l (some ⟨i, 0, none⟩) (some ⟨i', 0, none⟩) l.length l.length _ (HSE.out.1.ri i rfl) HSE.out.2 HLI.out).mono ?_
    rintro e wF ⟨rfl, bF⟩
    have HSF : Hid (Sx w wF #[.int .i64 pid, .int .i64 pc, .slice ra R rc, .slice ba B bc, .slice la N lc, .int .i64 ha] #[.slice ao GN gcap, .slice yo GM ycap, .int .i64 mk] l C GN GM gf gy L (some i) (some (x, y, z)) (some (g, u)) (some s)) := HSE.out.1.next bF
    have HBF : Hid (Below WA.heap.size WA wF ∧ Below W9.heap.size W9 wF) := ⟨HBE.out.1.trans (bF.mono HBE.out.1.size), HBE.out.2.trans (bF.mono HBE.out.2.size)⟩
    have q9 := HQ9.out wF HBF.out.2
    have q0 := HSF.out.aw.q0
    clear bF
    go_wp2_with fail
    have HSFd : Hid (Sx w wF.drew #[.int .i64 pid, .int .i64 pc, .slice ra R rc, .slice ba B bc, .slice la N lc, .int .i64 ha] #[.slice ao GN gcap, .slice yo GM ycap, .int .i64 mk] l C GN GM gf gy L none none none none ∧ Sx w wF.drew #[.int .i64 pid, .int .i64 pc, .slice ra R rc, .slice ba B bc, .slice la N lc, .int .i64 ha] #[.slice ao GN gcap, .slice yo GM ycap, .int .i64 mk] l C GN GM gf gy L (some i) (some (x, y, z)) (some (g, u)) (some s) ∧ Below WA.heap.size WA wF.drew ∧ Below W9.heap.size W9 wF.drew) := ⟨(Sx.start HSF.out.aw).next (Below.refl _ _).drew, HSF.out.next (Below.refl _ _).drew, HBF.out.1.drew, HBF.out.2.drew⟩
    go_cut [70] from 66 to 69 (fun v wx => v = .bool false ∧ Sx w wx #[.int .i64 pid, .int .i64 pc, .slice ra R rc, .slice ba B bc, .slice la N lc, .int .i64 ha] #[.slice ao GN gcap, .slice yo GM ycap, .int .i64 mk] l C GN GM gf gy L (some i) (some (x, y, z)) (some (g, u)) (some s) ∧ Below WA.heap.size WA wx)
    case first =>
      go_region_law (go_simp; go_wp2_with (first
        | (go_at_call 10; refine (HTC.out HS.out _ none none none HSFd.out.1).mono ?_; rintro e wT ⟨x', y', z', rfl, sT, bT⟩; have q9T := HQ9.out wT (HSFd.out.2.2.2.trans (bT.mono HSFd.out.2.2.2.size)))
        | (go_at_call 15; refine (HEC.out HS.out wT x y z x' y' z' ((HSFd.out.2.1.next bT).ci x y z rfl).1 (sT.ci x' y' z' rfl).1).mono ?_; rintro e wU ⟨rfl, bU⟩; have HFN : Hid (Sx w wU #[.int .i64 pid, .int .i64 pc, .slice ra R rc, .slice ba B bc, .slice la N lc, .int .i64 ha] #[.slice ao GN gcap, .slice yo GM ycap, .int .i64 mk] l C GN GM gf gy L (some i) (some (x, y, z)) (some (g, u)) (some s) ∧ Below WA.heap.size WA wU) := ⟨(HSFd.out.2.1.next bT).next bU, (HSFd.out.2.2.1.trans (bT.mono HSFd.out.2.2.1.size)).trans (bU.mono (HSFd.out.2.2.1.trans (bT.mono HSFd.out.2.2.1.size)).size)⟩)))
      all_goals
        clear bU bT sT q9T
        go_wp2_with fail
        go_meet
        case rel => exact ⟨rfl, HFN.out⟩
    case rest =>
      obtain ⟨wG, hG⟩ : ∃ wG, wG = wc := ⟨_, rfl⟩
      obtain rfl := hG
      obtain ⟨rfl, hsg, hbg⟩ := hcut
      have HSGG : Hid (Sx w wG #[.int .i64 pid, .int .i64 pc, .slice ra R rc, .slice ba B bc, .slice la N lc, .int .i64 ha] #[.slice ao GN gcap, .slice yo GM ycap, .int .i64 mk] l C GN GM gf gy L (some i) (some (x, y, z)) (some (g, u)) (some s) ∧ Below WA.heap.size WA wG) := ⟨hsg, hbg⟩
      clear hsg hbg q9 q0
      have qA := HQA.out wG HSGG.out.2
      have q1 := HSGG.out.1.aw.q1
      go_wp2_with fail
      have HSGd : Hid (Sx w wG.drew #[.int .i64 pid, .int .i64 pc, .slice ra R rc, .slice ba B bc, .slice la N lc, .int .i64 ha] #[.slice ao GN gcap, .slice yo GM ycap, .int .i64 mk] l C GN GM gf gy L none none none none ∧ Sx w wG.drew #[.int .i64 pid, .int .i64 pc, .slice ra R rc, .slice ba B bc, .slice la N lc, .int .i64 ha] #[.slice ao GN gcap, .slice yo GM ycap, .int .i64 mk] l C GN GM gf gy L (some i) (some (x, y, z)) (some (g, u)) (some s) ∧ Below WA.heap.size WA wG.drew) := ⟨(Sx.start HSGG.out.1.aw).next (Below.refl _ _).drew, HSGG.out.1.next (Below.refl _ _).drew, HSGG.out.2.drew⟩
      go_cut [75] from 71 to 74 (fun v wx => v = .bool false ∧ Sx w wx #[.int .i64 pid, .int .i64 pc, .slice ra R rc, .slice ba B bc, .slice la N lc, .int .i64 ha] #[.slice ao GN gcap, .slice yo GM ycap, .int .i64 mk] l C GN GM gf gy L (some i) (some (x, y, z)) (some (g, u)) (some s))
      case first =>
        go_region_law (go_simp; go_wp2_with (first
          | (go_at_call 11; refine (HTG.out HF.out _ none none none HSGd.out.1).mono ?_; rintro e wT ⟨g', u', rfl, sT, bT⟩; have qAT := HQA.out wT (HSGd.out.2.2.trans (bT.mono HSGd.out.2.2.size)))
          | (go_at_call 16; refine (eqGens_same _ _ _ _ GN GN GN GM GM GM gf gy mk wT ((HSGd.out.2.1.next bT).ig g u rfl).1.o.rdI (sT.ig g' u' rfl).1.o.rdI ((HSGd.out.2.1.next bT).ig g u rfl).1.i.rdI (sT.ig g' u' rfl).1.i.rdI HF.out).mono ?_; rintro e wU ⟨rfl, bU⟩; have HFN : Hid (Sx w wU #[.int .i64 pid, .int .i64 pc, .slice ra R rc, .slice ba B bc, .slice la N lc, .int .i64 ha] #[.slice ao GN gcap, .slice yo GM ycap, .int .i64 mk] l C GN GM gf gy L (some i) (some (x, y, z)) (some (g, u)) (some s)) := (HSGd.out.2.1.next bT).next bU)))
        all_goals
          clear bU bT sT qAT
          go_wp2_with fail
          go_meet
          case rel => exact ⟨rfl, HFN.out⟩
      case rest =>
        obtain ⟨wH, hH⟩ : ∃ wH, wH = wc := ⟨_, rfl⟩
        obtain rfl := hH
        obtain ⟨rfl, hsh⟩ := hcut
        have HSH : Hid (Sx w wH #[.int .i64 pid, .int .i64 pc, .slice ra R rc, .slice ba B bc, .slice la N lc, .int .i64 ha] #[.slice ao GN gcap, .slice yo GM ycap, .int .i64 mk] l C GN GM gf gy L (some i) (some (x, y, z)) (some (g, u)) (some s)) := hsh
        clear hsh qA q1
        go_wp2_with (go_at_call 12; fail)
        refine (HTS.out HL.out _ none none none (Sx.start HSH.out.aw)).mono ?_
        rintro e wJ ⟨s', rfl, sJ, bJ⟩
        have HSJ : Hid (Sx w wJ #[.int .i64 pid, .int .i64 pc, .slice ra R rc, .slice ba B bc, .slice la N lc, .int .i64 ha] #[.slice ao GN gcap, .slice yo GM ycap, .int .i64 mk] l C GN GM gf gy L (some i) (some (x, y, z)) (some (g, u)) (some s) ∧ Sts wJ s' L.length (lf L)) := ⟨HSH.out.next bJ, (sJ.st s' rfl).1⟩
        clear sJ bJ
        go_wp2_with (go_at_call 17; fail)
        refine (eqStr_same (some ⟨s, 0, none⟩) (some ⟨s', 0, none⟩) L.length L.length L wJ (HSJ.out.1.st s rfl).1.txt.rd HSJ.out.2.txt.rd (by have := HL.out; omega)).mono ?_
        rintro e wK ⟨rfl, bK⟩
        have HFZ : Hid (Below w.heap.size w wK) := (HSJ.out.1.next bK).aw.be
        clear bK
        go_wp2_with fail
        go_ret
        exact ⟨rfl, HFZ.out⟩
end Go.Proofs.YtjjmikfbongccaaGreatDoor.fnExactCellOk
