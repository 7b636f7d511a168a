/-
  At every pair of lists with its mark, atoms and roots the program's GensOk answers as the specification's and writes into no argument: the law FnExactGensOk returns true and its arguments read as before. No condition.
  (Ahead of it, in this text: agesOk: no thing that was met leads to a younger one.
  The program's GensOk.
  The program's GensOk: four questions, one behind the other. The specification's GensOk.
  The law over GensOk is walked.)
-/
import Derived.Test.YthdoamdjhpkimaaGkG
import Derived.Test.YthdoamdjhpkimaaInn
import Derived.Test.YthdoamdjhpkimaaSpH
import Derived.Test.YthdoamdjhpkimaaXgS
import Derived.Deep.RegionLaw
import Derived.Deep.RegionHeld3
import Derived.Test.YthdoamdjhpkimaaSlK
import Derived.OpenShut
import Derived.ChangeOld
import Derived.SliceStrings
import Derived.ShutString
namespace Go.Proofs.Ythdoamdjhpkimaa.Gn
open Go.RowKit Go.Maps
set_option linter.unusedVariables false

/-- The list of things, as it is read. -/
def Lsv (G : GE) (w : World) (ths : List Th) (a : Option Addr) : Prop := ths.length ≠ 0 → ∃ g, a = some ⟨g, 0, none⟩ ∧ ∀ j (h : j < ths.length), w.cell? ⟨g, j * 2, none⟩ = some (.int .i64 ths[j].x) ∧ w.cell? ⟨g, j * 2 + 1, none⟩ = some (.slice (some ⟨G.sb ths[j].p, G.so ths[j].p, none⟩) ths[j].K ths[j].c)
def AgP (G : GE) (w : World) (ths : List Th) (e : Ending) (w' : World) : Prop := ∃ r : Bool, e = .returned (.bool r) ∧ (r = true ↔ ∀ t ∈ ths, Eok G.H G.mark t.x) ∧ Below w.heap.size w w'
theorem take_snoc {α : Type} {l : List α} {j : Nat} (h : j < l.length) : l.take (j + 1) = l.take j ++ [l[j]] := by rw [List.take_add_one, List.getElem?_eq_getElem h]; rfl
theorem all_snoc {α : Type} {P : α → Prop} {l : List α} {x : α} (h : ∀ y ∈ l, P y) (hx : P x) : ∀ y ∈ l ++ [x], P y := fun y hy => by
  rcases List.mem_append.1 hy with hy | hy
  · exact h y hy
  · have e : y = x := by simpa using hy
    rw [e]; exact hx
theorem prts_big {G : GE} {w : World} (hs : GSrc G w) {y : Int} {p K f0 : Nat} (k : Kin G y p K f0) {z : Int} (hz : z ∈ prts G.H y) : z ≤ 9223372036854775807 := by
  by_cases h6 : tagW y = 6
  · rw [k.prb h6] at hz; exact absurd hz (by simp)
  · rw [k.prt h6] at hz
    obtain ⟨j, _, rfl⟩ := List.mem_map.1 hz
    unfold GE.w
    split
    · exact hs.big _
    · exact hs.bigy _
set_option maxHeartbeats 8000000 in
set_option maxRecDepth 100000 in
theorem ages_any {G : GE} {w : World} (hs : GSrc G w) (ths : List Th) (hok : ∀ t ∈ ths, Th.ok G t) (hfew : ths.length ≤ 1600008) (a : Option Addr) (c : Nat) (hl : Lsv G w ths a) :
    Calls Try.prog 61 #[G.v, .slice a ths.length c] w (AgP G w ths) := by
  have HS : Hid (GSrc G w) := hs
  have HOK : Hid (∀ t ∈ ths, Th.ok G t) := hok
  have HL : Hid (Lsv G w ths a) := hl
  obtain ⟨n, hn⟩ : ∃ n, ths.length = n := ⟨_, rfl⟩
  rw [hn] at hfew ⊢
  have HN : Hid (ths.length = n) := hn
  have HB0 : Hid (Below w.heap.size w (w.alloc (.cells #[.slice G.wv G.N G.cap, .slice G.yv G.M G.ycap, .int .i64 G.mark] 57))) := (Below.refl _ _).alloc (Nat.le_refl _) _
  have g0 : ∀ o, (w.alloc (.cells #[.slice G.wv G.N G.cap, .slice G.yv G.M G.ycap, .int .i64 G.mark] 57)).cell? ⟨w.heap.size, o, none⟩ = (#[.slice G.wv G.N G.cap, .slice G.yv G.M G.ycap, .int .i64 G.mark] : Array Value)[o]? := fun o => World.cell?_alloc_new w _ _ o
  clear hs hok hl hn
  go_enter Try.func61, Try.ntmps61
  go_wp2_with fail
  generalize (w.alloc (.cells #[.slice G.wv G.N G.cap, .slice G.yv G.M G.ycap, .int .i64 G.mark] 57)) = W at HB0 g0 ⊢
  generalize hX : w.heap.size = X at g0 ⊢
  have HX : Hid (w.heap.size = X) := hX
  clear hX
  go_loopw [11] (fun i wr => ∃ j : Nat, i = .int .i64 j ∧ j ≤ n ∧ (∀ t ∈ ths.take j, Eok G.H G.mark t.x) ∧ Below W.heap.size W wr) (fun i _ => n - (intOf i).toNat)
  case atStart => exact ⟨0, rfl, Nat.zero_le _, by simp, Below.refl _ _⟩
  case round =>
    obtain ⟨j, rfl, hj, hall, hbe⟩ := hrel
    have hg : ∀ o, wr.cell? ⟨X, o, none⟩ = (#[.slice G.wv G.N G.cap, .slice G.yv G.M G.ycap, .int .i64 G.mark] : Array Value)[o]? := fun o => by
      have h0 : W.cell? ⟨X, 0, none⟩ = some (.slice G.wv G.N G.cap) := g0 0
      have hlt : X < W.heap.size := World.block_lt_of_cell? W _ h0
      rw [hbe.cell (p := ⟨X, o, none⟩) hlt]; exact g0 o
    have HBE : Hid (Below w.heap.size w wr) := HB0.out.trans (hbe.mono HB0.out.size)
    have HBW : Hid (Below W.heap.size W wr) := hbe
    have HALL : Hid (∀ t ∈ ths.take j, Eok G.H G.mark t.x) := hall
    clear hbe hall
    by_cases hlt : j < n
    case neg =>
      have hlti : ¬ (j : Int) < (n : Int) := by omega
      go_wp2_with fail
      go_ret
      refine ⟨true, rfl, ⟨fun _ => ?_, fun _ => rfl⟩, HBE.out⟩
      have h := HALL.out
      rw [List.take_of_length_le (by have := HN.out; omega)] at h
      exact h
    case pos =>
      have hlti : (j : Int) < (n : Int) := by omega
      have hjl : j < ths.length := by have := HN.out; omega
      obtain ⟨g, ha, hcells⟩ := HL.out (by omega)
      subst ha
      have hc0 := (hcells j hjl).1
      have hc1 := (hcells j hjl).2
      obtain ⟨t, ht⟩ : ∃ t, ths[j] = t := ⟨_, rfl⟩
      have HT : Hid (ths.take (j + 1) = ths.take j ++ [t]) := by show _ = _; rw [take_snoc hjl, ht]
      have hto : Th.ok G t := HOK.out t (by rw [← ht]; exact List.getElem_mem hjl)
      have HMEM : Hid (t ∈ ths) := by show _ ∈ _; rw [← ht]; exact List.getElem_mem hjl
      rw [ht] at hc0 hc1
      have hd0 := (HBE.out.cell (p := ⟨g, j * 2, none⟩) (World.block_lt_of_cell? _ _ hc0)).trans hc0
      have hd1 := (HBE.out.cell (p := ⟨g, j * 2 + 1, none⟩) (World.block_lt_of_cell? _ _ hc1)).trans hc1
      obtain ⟨x, p, K, f0, c2⟩ := t
      have HTO : Hid (Th.ok G ⟨x, p, K, f0, c2⟩) := hto
      clear hcells ht hc0 hc1 hto
      simp only at hd0 hd1
      go_wp2_with (go_at_call 87; refine (parts_any x _ _ K c2 HTO.out.big HTO.out.kin.k1 HTO.out.kin.k9 HTO.out.le _).mono ?_; rintro e w6 ⟨a6, c6, rfl, ha6, hb6⟩)
      have h2x := (Below.refl wr.heap.size wr).alloc (Nat.le_refl _) (.cells #[.int .i64 x, .slice (some ⟨G.sb p, G.so p, none⟩) K c2] 112)
      have hb7 : Below wr.heap.size wr w6 := h2x.trans (hb6.mono h2x.size)
      have bx : ∀ o, w6.cell? ⟨wr.heap.size, o, none⟩ = (#[.int .i64 x, .slice (some ⟨G.sb p, G.so p, none⟩) K c2] : Array Value)[o]? := fun o => by
        rw [hb6.cell (p := ⟨wr.heap.size, o, none⟩) (by show _ < _; simp)]
        exact World.cell?_alloc_new wr _ _ o
      have hg6 : ∀ o, w6.cell? ⟨X, o, none⟩ = (#[.slice G.wv G.N G.cap, .slice G.yv G.M G.ycap, .int .i64 G.mark] : Array Value)[o]? := fun o => by
        have h0 : wr.cell? ⟨X, 0, none⟩ = some (.slice G.wv G.N G.cap) := hg 0
        have hlt : X < wr.heap.size := World.block_lt_of_cell? wr _ h0
        rw [hb7.cell (p := ⟨X, o, none⟩) hlt]; exact hg o
      have HB6 : Hid (Below w.heap.size w w6 ∧ Below W.heap.size W w6) := ⟨HBE.out.trans (hb7.mono HBE.out.size), HBW.out.trans (hb7.mono HBW.out.size)⟩
      obtain ⟨hpl, hroots⟩ := parts_row HS.out HTO.out.kin ha6
      have HZB : Hid (∀ z ∈ prts G.H x, z ≤ 9223372036854775807) := fun z hz => prts_big HS.out HTO.out.kin hz
      have hL9 : npr x K ≤ 41 := by have h1 : K ≤ 41 := HTO.out.kin.k9; unfold npr; split <;> (try split) <;> omega
      generalize npr x K = L at hpl hL9 ⊢
      generalize wr.heap.size = Y at bx ⊢
      have HRT : Hid (Roots w a6 (prts G.H x)) := hroots
      have HPL : Hid ((prts G.H x).length = L) := hpl
      have HEO : Hid (Eok G.H G.mark x ↔ ∀ z ∈ prts G.H x, leadsW z = true → agW G.mark z ≤ agW G.mark x) := Iff.rfl
      clear hb6 hb7 h2x ha6 hg hd0 hd1 hpl hroots HBE HBW g0
      generalize prts G.H x = zs at HRT HPL HEO HZB
      go_loopw [18] (fun i wr => ∃ m : Nat, i = .int .i64 m ∧ m ≤ L ∧ (∀ z ∈ zs.take m, leadsW z = true → agW G.mark z ≤ agW G.mark x) ∧ Below w6.heap.size w6 wr) (fun i _ => L - (intOf i).toNat)
      case atStart => exact ⟨0, rfl, Nat.zero_le _, by simp, Below.refl _ _⟩
      case round =>
        obtain ⟨m, rfl, hm, hall, hbe⟩ := hrel
        have HALL2 : Hid (∀ z ∈ zs.take m, leadsW z = true → agW G.mark z ≤ agW G.mark x) := hall
        have HBE : Hid (Below w.heap.size w wr ∧ Below W.heap.size W wr ∧ Below w6.heap.size w6 wr) := ⟨HB6.out.1.trans (hbe.mono HB6.out.1.size), HB6.out.2.trans (hbe.mono HB6.out.2.size), hbe⟩
        have e0 : w6.cell? ⟨X, 0, none⟩ = some (.slice G.wv G.N G.cap) := hg6 0
        have e1 : w6.cell? ⟨X, 1, none⟩ = some (.slice G.yv G.M G.ycap) := hg6 1
        have e2 : w6.cell? ⟨X, 2, none⟩ = some (.int .i64 G.mark) := hg6 2
        have e3 : w6.cell? ⟨Y, 0, none⟩ = some (.int .i64 x) := bx 0
        have d0 := (hbe.cell (p := ⟨X, 0, none⟩) (World.block_lt_of_cell? _ _ e0)).trans e0
        have d1 := (hbe.cell (p := ⟨X, 1, none⟩) (World.block_lt_of_cell? _ _ e1)).trans e1
        have d2 := (hbe.cell (p := ⟨X, 2, none⟩) (World.block_lt_of_cell? _ _ e2)).trans e2
        have d3 := (hbe.cell (p := ⟨Y, 0, none⟩) (World.block_lt_of_cell? _ _ e3)).trans e3
        clear hall hbe e0 e1 e2 e3
        by_cases hmt : m < L
        case neg =>
          have hlti2 : ¬ (m : Int) < (L : Int) := by omega
          go_wp2_with fail
          go_roundw
          case rel =>
            refine ⟨j + 1, rfl, by omega, ?_, HBE.out.2.1⟩
            rw [HT.out]
            refine all_snoc HALL.out (HEO.out.2 ?_)
            have h := HALL2.out
            rw [List.take_of_length_le (by have := HPL.out; omega)] at h
            exact h
          case measure => simp [intOf]; omega
        case pos =>
          have hlti2 : (m : Int) < (L : Int) := by omega
          have hml : m < zs.length := by have := HPL.out; omega
          obtain ⟨rb, ro, ha6, hcz⟩ := HRT.out (by omega)
          subst ha6
          have hz0 := hcz m hml
          obtain ⟨z, hz⟩ : ∃ z, zs[m] = z := ⟨_, rfl⟩
          have HTZ : Hid (zs.take (m + 1) = zs.take m ++ [z] ∧ z ∈ zs) := ⟨by rw [take_snoc hml, hz], by rw [← hz]; exact List.getElem_mem hml⟩
          rw [hz] at hz0
          have hz1 := (HBE.out.1.cell (p := ⟨rb, ro + m, none⟩) (World.block_lt_of_cell? _ _ hz0)).trans hz0
          have HZ : Hid (z ≤ 9223372036854775807 ∧ x ≤ 9223372036854775807) := ⟨HZB.out z HTZ.out.2, HTO.out.big⟩
          clear hcz hz0 hz
          have k0 := Inn.keep d0
          have k1 := Inn.keep d1
          have k2 := Inn.keep d2
          have k3 := Inn.keep d3
          haveI := inn_ne wr
          have HAA : Hid (∀ u : Int, u = z ∨ u = x → ∀ y : Inn wr, Calls Try.prog 89 #[.agg #[.slice G.wv G.N G.cap, .slice G.yv G.M G.ycap, .int .i64 G.mark], .int .i64 u] y.val fun e w' => e = .returned (.int .i64 (agW G.mark u : Nat)) ∧ Below y.val.heap.size y.val w') := fun u hu y => implAge_any G u (by rcases hu with rfl | rfl; exact HZ.out.1; exact HZ.out.2) y.val
          cases hld : leadsW z with
          | false =>
            have HLE : Hid (∀ y : Inn wr, Calls Try.prog 88 #[.int .i64 z] y.val fun e w' => e = .returned (.bool false) ∧ w' = y.val) := fun y => by rw [← hld]; exact implLeads_any z HZ.out.1 y.val
            have HLD : Hid (leadsW z = false) := hld
            clear hld
            go_wp2_with fail
            refine wp_region_inn ?_ ?_ ?_
            · kernel_rfl
            · kernel_rfl
            repeat (go_big_quiet_step (first
              | (go_at_call 88; exact calls_inn_same (HLE.out _))))
            refine wpQuiet_nil ?_
            rintro w1 ⟨y1, h1⟩
            have hb1 : Below wr.heap.size wr w1 := by rw [h1]; exact y1.bel
            have HB1 : Hid (Below w6.heap.size w6 w1) := HBE.out.2.2.trans (hb1.mono HBE.out.2.2.size)
            clear h1 hb1 y1 k0 k1 k2 k3 HAA HLE d0 d1 d2 d3 hz1
            go_wp2_with fail
            go_roundw
            case rel =>
              refine ⟨m + 1, rfl, by omega, ?_, HB1.out⟩
              rw [HTZ.out.1]
              exact all_snoc HALL2.out (fun h => by rw [HLD.out] at h; cases h)
            case measure => simp [intOf]; omega
          | true =>
            have HLE : Hid (∀ y : Inn wr, Calls Try.prog 88 #[.int .i64 z] y.val fun e w' => e = .returned (.bool true) ∧ w' = y.val) := fun y => by rw [← hld]; exact implLeads_any z HZ.out.1 y.val
            have HLD : Hid (leadsW z = true) := hld
            clear hld
            go_wp2_with fail
            refine wp_region_inn ?_ ?_ ?_
            · kernel_rfl
            · kernel_rfl
            repeat (go_big_quiet_step (first
              | (go_at_call 88; exact calls_inn_same (HLE.out _))
              | (go_at_call 89; exact calls_inn (HAA.out _ (by first | exact Or.inl rfl | exact Or.inr rfl) _))))
            refine wpQuiet_nil ?_
            rintro w1 ⟨y1, h1⟩
            have hb1 : Below wr.heap.size wr w1 := by rw [h1]; exact y1.bel
            have HB1 : Hid (Below w6.heap.size w6 w1) := HBE.out.2.2.trans (hb1.mono HBE.out.2.2.size)
            have HB2 : Hid (Below w.heap.size w w1) := HBE.out.1.trans (hb1.mono HBE.out.1.size)
            clear h1 hb1 y1 k0 k1 k2 k3 HAA HLE d0 d1 d2 d3 hz1
            by_cases hag : agW G.mark z ≤ agW G.mark x
            · have HAG : Hid (agW G.mark z ≤ agW G.mark x) := hag
              have hag2 : ¬ (agW G.mark x : Int) < (agW G.mark z : Int) := by omega
              clear hag
              go_wp2_with fail
              go_roundw
              case rel =>
                refine ⟨m + 1, rfl, by omega, ?_, HB1.out⟩
                rw [HTZ.out.1]
                exact all_snoc HALL2.out (fun h => HAG.out)
              case measure => simp [intOf]; omega
            · have HAG : Hid (¬ agW G.mark z ≤ agW G.mark x) := hag
              have hag2 : (agW G.mark x : Int) < (agW G.mark z : Int) := by omega
              clear hag
              go_wp2_with fail
              go_ret
              exact ⟨false, rfl, ⟨fun h => (by cases h), fun h => absurd ((HEO.out.1 (h _ HMEM.out)) z HTZ.out.2 HLD.out) HAG.out⟩, HB2.out⟩
end Go.Proofs.Ythdoamdjhpkimaa.Gn

namespace Go.Proofs.Ythdoamdjhpkimaa.Gn
open Go.RowKit Go.Maps
set_option linter.unusedVariables false

theorem below3 (w : World) (o : Obj) : Below w.heap.size w (w.alloc o) := (Below.refl _ _).alloc (Nat.le_refl _) o
def lstB (G : GE) : Bool := decide (G.N ≤ 1000) && decide (G.M ≤ 1000)
def szB (G : GE) : Bool := lstB G && (decide (0 ≤ G.mark) && decide (G.mark ≤ (G.M : Int)))
set_option maxHeartbeats 1000000 in
set_option maxRecDepth 100000 in
theorem lists_any (G : GE) (w : World) (hN : G.N ≤ 1048576) (hM : G.M ≤ 1048576) : Calls Try.prog 86 #[G.v] w fun e w' => e = .returned (.bool (lstB G)) ∧ Below w.heap.size w w' := by
  have HB : Hid (∀ o, Below w.heap.size w (w.alloc o)) := below3 w
  by_cases h1 : G.N ≤ 1000
  · have hd : decide ((G.N : Int) ≤ 1000) = true := by simp; omega
    by_cases h2 : G.M ≤ 1000
    · have hd2 : decide ((G.M : Int) ≤ 1000) = true := by simp; omega
      have HE : Hid (lstB G = true) := by show _ = _; simp [lstB, h1, h2]
      clear h1 h2
      go_enter Try.func86, Try.ntmps86
      go_wp2_with fail
      go_ret
      exact ⟨ret_bool HE.out.symm, HB.out _⟩
    · have hd2 : decide ((G.M : Int) ≤ 1000) = false := by simp; omega
      have HE : Hid (lstB G = false) := by show _ = _; simp [lstB, h2]
      clear h1 h2
      go_enter Try.func86, Try.ntmps86
      go_wp2_with fail
      go_ret
      exact ⟨ret_bool HE.out.symm, HB.out _⟩
  · have hd : decide ((G.N : Int) ≤ 1000) = false := by simp; omega
    have HE : Hid (lstB G = false) := by show _ = _; simp [lstB, h1]
    clear h1
    go_enter Try.func86, Try.ntmps86
    go_wp2_with fail
    go_ret
    exact ⟨ret_bool HE.out.symm, HB.out _⟩
set_option maxHeartbeats 2000000 in
set_option maxRecDepth 100000 in
theorem sizes_any (G : GE) (w : World) (hN : G.N ≤ 1048576) (hM : G.M ≤ 1048576) : Calls Try.prog 60 #[G.v] w fun e w' => e = .returned (.bool (szB G)) ∧ Below w.heap.size w w' := by
  have q0 : ∀ o, (w.alloc (.cells #[.slice G.wv G.N G.cap, .slice G.yv G.M G.ycap, .int .i64 G.mark] 57)).cell? ⟨w.heap.size, o, none⟩ = (#[.slice G.wv G.N G.cap, .slice G.yv G.M G.ycap, .int .i64 G.mark] : Array Value)[o]? := fun o => World.cell?_alloc_new w _ _ o
  have HB : Hid (Below w.heap.size w (w.alloc (.cells #[.slice G.wv G.N G.cap, .slice G.yv G.M G.ycap, .int .i64 G.mark] 57))) := below3 w _
  have HL : Hid (∀ w1, Calls Try.prog 86 #[.agg #[.slice G.wv G.N G.cap, .slice G.yv G.M G.ycap, .int .i64 G.mark]] w1 fun e w' => e = .returned (.bool (lstB G)) ∧ Below w1.heap.size w1 w') := fun w1 => lists_any G w1 hN hM
  cases hl : lstB G with
  | false =>
    have HLB : Hid (lstB G = false) := hl
    have HE : Hid (szB G = false) := by show _ = _; simp [szB, hl]
    clear hl
    go_enter Try.func60, Try.ntmps60
    go_wp2_with (go_at_call 86; refine (HL.out _).mono ?_; rintro e w2 ⟨rfl, hb2⟩; rw [HLB.out]; have HB2 : Hid (Below w.heap.size w w2) := HB.out.trans (hb2.mono HB.out.size); clear hb2)
    go_ret
    exact ⟨ret_bool HE.out.symm, HB2.out⟩
  | true =>
    have HLB : Hid (lstB G = true) := hl
    have HE : Hid (szB G = (decide (0 ≤ G.mark) && decide (G.mark ≤ (G.M : Int)))) := by show _ = _; simp [szB, hl]
    clear hl
    by_cases h1 : 0 ≤ G.mark
    · by_cases h2 : G.mark ≤ (G.M : Int)
      · have HE2 : Hid (szB G = true) := by show _ = _; rw [HE.out]; simp [h1, h2]
        go_enter Try.func60, Try.ntmps60
        go_wp2_with (go_at_call 86; refine (HL.out _).mono ?_; rintro e w2 ⟨rfl, hb2⟩; rw [HLB.out]; have q2 := keep3 hb2 q0; have HB2 : Hid (Below w.heap.size w w2) := HB.out.trans (hb2.mono HB.out.size); clear hb2)
        go_ret
        exact ⟨ret_bool HE2.out.symm, HB2.out⟩
      · have HE2 : Hid (decide (G.mark ≤ (G.M : Int)) = szB G) := by show _ = _; rw [HE.out]; simp [h1]
        go_enter Try.func60, Try.ntmps60
        go_wp2_with (go_at_call 86; refine (HL.out _).mono ?_; rintro e w2 ⟨rfl, hb2⟩; rw [HLB.out]; have q2 := keep3 hb2 q0; have HB2 : Hid (Below w.heap.size w w2) := HB.out.trans (hb2.mono HB.out.size); clear hb2)
        go_ret
        exact ⟨ret_bool HE2.out, HB2.out⟩
    · have HE2 : Hid (szB G = false) := by show _ = _; rw [HE.out]; simp [h1]
      go_enter Try.func60, Try.ntmps60
      go_wp2_with (go_at_call 86; refine (HL.out _).mono ?_; rintro e w2 ⟨rfl, hb2⟩; rw [HLB.out]; have q2 := keep3 hb2 q0; have HB2 : Hid (Below w.heap.size w w2) := HB.out.trans (hb2.mono HB.out.size); clear hb2)
      go_ret
      exact ⟨ret_bool HE2.out.symm, HB2.out⟩
/-- What is asked of two generations. -/
def gensP (G : GE) (R : List Int) : Prop := szB G = true ∧ atomsB G.A = true ∧ allB G.H R = true ∧ ∀ x ∈ R, ∀ y, Rch G.H x y → leadsW y = true → Eok G.H G.mark y
def GoP (G : GE) (R : List Int) (w : World) (e : Ending) (w' : World) : Prop := ∃ r : Bool, e = .returned (.bool r) ∧ (r = true ↔ gensP G R) ∧ Below w.heap.size w w'
theorem gensP_sz {G : GE} {R : List Int} (h : szB G = false) : ¬ gensP G R := fun k => by have := k.1; rw [h] at this; cases this
theorem gensP_at {G : GE} {R : List Int} (h : atomsB G.A = false) : ¬ gensP G R := fun k => by have := k.2.1; rw [h] at this; cases this
theorem gensP_all {G : GE} {R : List Int} (h : allB G.H R = false) : ¬ gensP G R := fun k => by have := k.2.2.1; rw [h] at this; cases this
theorem sz_lt {G : GE} (h : szB G = true) : G.N ≤ 1000 ∧ G.M ≤ 1000 ∧ 0 ≤ G.mark ∧ G.mark ≤ (G.M : Int) := by
  simp only [szB, lstB, Bool.and_eq_true, decide_eq_true_eq] at h
  exact ⟨h.1.1, h.1.2, h.2.1, h.2.2⟩
/-- What reads has an end. -/
theorem all_fin {G : GE} {R : List Int} (h : allB G.H R = true) : ∀ x ∈ R, FinW G.H 612 x := fun x hx => by
  unfold allB at h
  rw [List.all_eq_true] at h
  have h1 := h x hx
  unfold readT at h1
  cases h2 : rT true G.H 6 x 100 with
  | none => rw [h2] at h1; cases h1
  | some p => exact fin_read 6 x 100 p.1 p.2 (Nat.le_refl _) h2
theorem gensP_iff {G : GE} {R : List Int} {ths : List Th} {r : Bool} (h1 : szB G = true) (h2 : atomsB G.A = true) (h3 : allB G.H R = true) (hm : Met G.H R (ths.map Th.x)) (h : r = true ↔ ∀ t ∈ ths, Eok G.H G.mark t.x) : r = true ↔ gensP G R := by
  have e : (∀ t ∈ ths, Eok G.H G.mark t.x) ↔ ∀ y ∈ ths.map Th.x, Eok G.H G.mark y := by simp
  rw [h, e, hm.iff]
  exact ⟨fun k => ⟨h1, h2, h3, k⟩, fun k => k.2.2.2⟩
theorem thCells_at (G : GE) : ∀ (l : List Th) (j : Nat) (h : j < l.length), (thCells G l)[j * 2]? = some (.int .i64 l[j].x) ∧ (thCells G l)[j * 2 + 1]? = some (.slice (some ⟨G.sb l[j].p, G.so l[j].p, none⟩) l[j].K l[j].c)
  | [], j, h => absurd h (Nat.not_lt_zero _)
  | t :: r, 0, h => ⟨rfl, rfl⟩
  | t :: r, j + 1, h => by
    have := thCells_at G r j (by simpa using h)
    have e : thCells G (t :: r) = .int .i64 t.x :: .slice (some ⟨G.sb t.p, G.so t.p, none⟩) t.K t.c :: thCells G r := rfl
    rw [e, show (j + 1) * 2 = j * 2 + 1 + 1 by omega]
    exact this
theorem lsv_of {G : GE} {w : World} {base : Nat} {ths : List Th} {lv : Value} (h : w.ownsRow base 112 2 lv ths.length (thCells G ths)) : ∃ a c, lv = .slice a ths.length c ∧ Lsv G w ths a := by
  rcases h.2 with ⟨h0, h1⟩ | ⟨g, cap, cur, hv, hb, hh, h1, h2, h3, h4⟩
  · exact ⟨none, 0, by rw [h0, h1], fun hn => absurd h1 hn⟩
  · refine ⟨_, cap, hv, fun _ => ⟨g, rfl, fun j hj => ?_⟩⟩
    obtain ⟨e1, e2⟩ := thCells_at G ths j hj
    have hc : ∀ k v, k < ths.length * 2 → (thCells G ths)[k]? = some v → w.cell? ⟨g, k, none⟩ = some v := fun k v hk he => by
      rw [← h4, List.getElem?_take, if_pos hk, Array.getElem?_toList] at he
      rw [cell_of_row w g k cur _ _ hh]; exact he
    exact ⟨hc _ _ (by omega) e1, hc _ _ (by omega) e2⟩
end Go.Proofs.Ythdoamdjhpkimaa.Gn

namespace Go.Proofs.Ythdoamdjhpkimaa.Gn
open Go.RowKit Go.Maps
set_option linter.unusedVariables false

set_option maxHeartbeats 8000000 in
set_option maxRecDepth 100000 in
theorem implGensOk_any {G : GE} {w : World} (hs : GSrc G w) (R : List Int) (rv : Option Addr) (rcap : Nat) (hr : Roots w rv R) (hR : R.length ≤ 1048576) (hb : ∀ x ∈ R, x ≤ 9223372036854775807) :
    Calls Try.prog 38 #[.agg #[.slice G.wv G.N G.cap, .slice G.yv G.M G.ycap, .int .i64 G.mark], .slice G.av G.A.length G.acap, .slice rv R.length rcap] w (GoP G R w) := by
  have HS : Hid (GSrc G w) := hs
  have q0 : ∀ o, (w.alloc (.cells #[.slice G.wv G.N G.cap, .slice G.yv G.M G.ycap, .int .i64 G.mark] 57)).cell? ⟨w.heap.size, o, none⟩ = (#[.slice G.wv G.N G.cap, .slice G.yv G.M G.ycap, .int .i64 G.mark] : Array Value)[o]? := fun o => World.cell?_alloc_new w _ _ o
  have HB : Hid (Below w.heap.size w (w.alloc (.cells #[.slice G.wv G.N G.cap, .slice G.yv G.M G.ycap, .int .i64 G.mark] 57))) := below3 w _
  have HSI : Hid (∀ w1, Calls Try.prog 60 #[.agg #[.slice G.wv G.N G.cap, .slice G.yv G.M G.ycap, .int .i64 G.mark]] w1 fun e w' => e = .returned (.bool (szB G)) ∧ Below w1.heap.size w1 w') := fun w1 => sizes_any G w1 hs.n hs.m
  have HAT : Hid (∀ w', Below w.heap.size w w' → Calls Try.prog 46 #[.slice G.av G.A.length G.acap] w' fun e w'' => e = .returned (.bool (atomsB G.A)) ∧ Below w'.heap.size w' w'') := fun w' hb' => by
    have s := hs.below hb'
    exact implAtoms_any G.ab G.ao G.acap G.av G.A w' s.al s.ats s.a (big_txt s.txt)
  have HAR : Hid (∀ w', Below w.heap.size w w' → Calls Try.prog 47 #[.func (.func 83) #[] #[.pointer (some ⟨w'.heap.size, 0, none⟩)], .slice G.av G.A.length G.acap, .slice rv R.length rcap] (w'.alloc (.cells #[.slice G.wv G.N G.cap, .slice G.yv G.M G.ycap, .int .i64 G.mark] 57)) fun e w'' => e = .returned (.bool (allB G.H R)) ∧ Below (w'.alloc (.cells #[.slice G.wv G.N G.cap, .slice G.yv G.M G.ycap, .int .i64 G.mark] 57)).heap.size (w'.alloc (.cells #[.slice G.wv G.N G.cap, .slice G.yv G.M G.ycap, .int .i64 G.mark] 57)) w'') := fun w' hb' => by
    have hb2 : Below w.heap.size w (w'.alloc (.cells #[.slice G.wv G.N G.cap, .slice G.yv G.M G.ycap, .int .i64 G.mark] 57)) := hb'.alloc hb'.size _
    exact allRead_any (ofGens G (w'.alloc (.cells #[.slice G.wv G.N G.cap, .slice G.yv G.M G.ycap, .int .i64 G.mark] 57)) w'.heap.size) _ rfl (ofGens_src (hs.below hb2) (World.cell?_alloc_new w' _ _ 0) (World.cell?_alloc_new w' _ _ 1)) rv rcap R (hr.below hb2) hR hb
  cases hz : szB G with
  | false =>
    have HSZ : Hid (szB G = false) := hz
    clear hz hs hr hR hb
    go_enter Try.func38, Try.ntmps38
    go_wp2_with fail
    generalize w.alloc (.cells #[.slice G.wv G.N G.cap, .slice G.yv G.M G.ycap, .int .i64 G.mark] 57) = W at HB q0 ⊢
    generalize w.heap.size = X at q0 ⊢
    have p0 : W.cell? ⟨X, 0, none⟩ = some (.slice G.wv G.N G.cap) := q0 0
    have p1 : W.cell? ⟨X, 1, none⟩ = some (.slice G.yv G.M G.ycap) := q0 1
    have p2 : W.cell? ⟨X, 2, none⟩ = some (.int .i64 G.mark) := q0 2
    have k0 := Inn.keep p0
    have k1 := Inn.keep p1
    have k2 := Inn.keep p2
    haveI := inn_ne W
    have HS1 : Hid (∀ y : Inn W, Calls Try.prog 60 #[.agg #[.slice G.wv G.N G.cap, .slice G.yv G.M G.ycap, .int .i64 G.mark]] y.val fun e w' => e = .returned (.bool false) ∧ Below y.val.heap.size y.val w') := fun y => by have := HSI.out y.val; rw [HSZ.out] at this; exact this
    clear q0
    refine wp_region_inn ?_ ?_ ?_
    · kernel_rfl
    · kernel_rfl
    repeat (go_big_quiet_step (first
      | (go_at_call 60; exact calls_inn (HS1.out _))))
    refine wpQuiet_nil ?_
    rintro w1 ⟨y1, h1⟩
    have hb1 : Below W.heap.size W w1 := by rw [h1]; exact y1.bel
    have HB1 : Hid (Below w.heap.size w w1) := HB.out.trans (hb1.mono HB.out.size)
    clear h1 hb1 y1 k0 k1 k2 p0 p1 p2 HS1
    go_wp2_with fail
    go_ret
    exact ⟨false, rfl, ⟨fun h => (by cases h), fun h => absurd h (gensP_sz HSZ.out)⟩, HB1.out⟩
  | true =>
    have HSZ : Hid (szB G = true) := hz
    cases ha : atomsB G.A with
    | false =>
      have HA : Hid (atomsB G.A = false) := ha
      clear hz ha hs hr hR hb
      go_enter Try.func38, Try.ntmps38
      go_wp2_with fail
      generalize w.alloc (.cells #[.slice G.wv G.N G.cap, .slice G.yv G.M G.ycap, .int .i64 G.mark] 57) = W at HB q0 ⊢
      generalize w.heap.size = X at q0 ⊢
      have p0 : W.cell? ⟨X, 0, none⟩ = some (.slice G.wv G.N G.cap) := q0 0
      have p1 : W.cell? ⟨X, 1, none⟩ = some (.slice G.yv G.M G.ycap) := q0 1
      have p2 : W.cell? ⟨X, 2, none⟩ = some (.int .i64 G.mark) := q0 2
      have k0 := Inn.keep p0
      have k1 := Inn.keep p1
      have k2 := Inn.keep p2
      haveI := inn_ne W
      have HS1 : Hid (∀ y : Inn W, Calls Try.prog 60 #[.agg #[.slice G.wv G.N G.cap, .slice G.yv G.M G.ycap, .int .i64 G.mark]] y.val fun e w' => e = .returned (.bool true) ∧ Below y.val.heap.size y.val w') := fun y => by have := HSI.out y.val; rw [HSZ.out] at this; exact this
      have HA1 : Hid (∀ y : Inn W, Calls Try.prog 46 #[.slice G.av G.A.length G.acap] y.val fun e w' => e = .returned (.bool false) ∧ Below y.val.heap.size y.val w') := fun y => by have := HAT.out y.val (HB.out.trans (y.bel.mono HB.out.size)); rw [HA.out] at this; exact this
      clear q0
      refine wp_region_inn ?_ ?_ ?_
      · kernel_rfl
      · kernel_rfl
      repeat (go_big_quiet_step (first
        | (go_at_call 60; exact calls_inn (HS1.out _))
        | (go_at_call 46; exact calls_inn (HA1.out _))))
      refine wpQuiet_nil ?_
      rintro w1 ⟨y1, h1⟩
      have hb1 : Below W.heap.size W w1 := by rw [h1]; exact y1.bel
      have HB1 : Hid (Below w.heap.size w w1) := HB.out.trans (hb1.mono HB.out.size)
      clear h1 hb1 y1 k0 k1 k2 p0 p1 p2 HS1 HA1
      go_wp2_with fail
      go_ret
      exact ⟨false, rfl, ⟨fun h => (by cases h), fun h => absurd h (gensP_at HA.out)⟩, HB1.out⟩
    | true =>
      have HA : Hid (atomsB G.A = true) := ha
      cases hal : allB G.H R with
      | false =>
        have HAL : Hid (allB G.H R = false) := hal
        clear hz ha hal hs hr hR hb
        go_enter Try.func38, Try.ntmps38
        go_wp2_with fail
        generalize w.alloc (.cells #[.slice G.wv G.N G.cap, .slice G.yv G.M G.ycap, .int .i64 G.mark] 57) = W at HB q0 ⊢
        generalize w.heap.size = X at q0 ⊢
        have p0 : W.cell? ⟨X, 0, none⟩ = some (.slice G.wv G.N G.cap) := q0 0
        have p1 : W.cell? ⟨X, 1, none⟩ = some (.slice G.yv G.M G.ycap) := q0 1
        have p2 : W.cell? ⟨X, 2, none⟩ = some (.int .i64 G.mark) := q0 2
        have pd0 : W.drew.cell? ⟨X, 0, none⟩ = some (.slice G.wv G.N G.cap) := p0
        have pd1 : W.drew.cell? ⟨X, 1, none⟩ = some (.slice G.yv G.M G.ycap) := p1
        have pd2 : W.drew.cell? ⟨X, 2, none⟩ = some (.int .i64 G.mark) := p2
        have HBD : Hid (Below w.heap.size w W.drew) := HB.out.drew
        clear q0
        first
        | go_region_law (go_simp; go_wp2_with (first
            | (go_at_call 60; refine (HSI.out _).mono ?_; rintro e w2 ⟨rfl, hb2⟩; rw [HSZ.out]; have HB2 : Hid (Below w.heap.size w w2) := HBD.out.trans (hb2.mono HBD.out.size); have q20 := keep0 hb2 pd0; have q21 := keep0 hb2 pd1; have q22 := keep0 hb2 pd2; clear hb2)
            | (go_at_call 46; refine (HAT.out _ HB2.out).mono ?_; rintro e w3 ⟨rfl, hb3⟩; rw [HA.out]; have q30 := keep0 hb3 q20; have q31 := keep0 hb3 q21; have q32 := keep0 hb3 q22; have HB3 : Hid (Below w.heap.size w w3) := HB2.out.trans (hb3.mono HB2.out.size); clear hb3)
            | (go_at_call 57; refine (gensFrom_any _ _ _ _ _ _ _ _).mono ?_; rintro e w4 ⟨rfl, hw4⟩; obtain rfl := hw4.symm; have q40 := keep0 (below3 w3 (.cells #[.slice G.wv G.N G.cap, .slice G.yv G.M G.ycap, .int .i64 G.mark] 57)) q30; have q41 := keep0 (below3 w3 (.cells #[.slice G.wv G.N G.cap, .slice G.yv G.M G.ycap, .int .i64 G.mark] 57)) q31; have q42 := keep0 (below3 w3 (.cells #[.slice G.wv G.N G.cap, .slice G.yv G.M G.ycap, .int .i64 G.mark] 57)) q32)
            | (go_at_call 47; refine (HAR.out _ HB3.out).mono ?_; rintro e w5 ⟨rfl, hb5⟩; rw [HAL.out]; have q50 := keep0 hb5 q40; have q51 := keep0 hb5 q41; have q52 := keep0 hb5 q42; have HB5 : Hid (Below w.heap.size w w5) := (HB3.out.alloc HB3.out.size _).trans (hb5.mono (HB3.out.alloc HB3.out.size _).size); clear hb5)))
        | fail
        all_goals (
          go_wp2_with fail
          go_ret
          exact ⟨false, rfl, ⟨fun h => (by cases h), fun h => absurd h (gensP_all HAL.out)⟩, HB5.out⟩)
      | true =>
        have HAL : Hid (allB G.H R = true) := hal
        have HTH : Hid (∀ w', Below w.heap.size w w' → Calls Try.prog 62 #[.agg #[.slice G.wv G.N G.cap, .slice G.yv G.M G.ycap, .int .i64 G.mark], .slice rv R.length rcap] w' (ThsP G w' R)) := fun w' hb' => things_any (hs.below hb') (sz_lt hz).1 (sz_lt hz).2.1 R rv rcap 612 (hr.below hb') hR (all_fin hal) hb
        clear hz ha hal hs hr hR hb
        go_enter Try.func38, Try.ntmps38
        go_wp2_with fail
        generalize w.alloc (.cells #[.slice G.wv G.N G.cap, .slice G.yv G.M G.ycap, .int .i64 G.mark] 57) = W at HB q0 ⊢
        generalize w.heap.size = X at q0 ⊢
        have p0 : W.cell? ⟨X, 0, none⟩ = some (.slice G.wv G.N G.cap) := q0 0
        have p1 : W.cell? ⟨X, 1, none⟩ = some (.slice G.yv G.M G.ycap) := q0 1
        have p2 : W.cell? ⟨X, 2, none⟩ = some (.int .i64 G.mark) := q0 2
        have pd0 : W.drew.cell? ⟨X, 0, none⟩ = some (.slice G.wv G.N G.cap) := p0
        have pd1 : W.drew.cell? ⟨X, 1, none⟩ = some (.slice G.yv G.M G.ycap) := p1
        have pd2 : W.drew.cell? ⟨X, 2, none⟩ = some (.int .i64 G.mark) := p2
        have HBD : Hid (Below w.heap.size w W.drew) := HB.out.drew
        clear q0
        first
        | go_region_held3 (fun w' => w'.cell? ⟨X, 0, none⟩ = some (.slice G.wv G.N G.cap) ∧ w'.cell? ⟨X, 1, none⟩ = some (.slice G.yv G.M G.ycap) ∧ w'.cell? ⟨X, 2, none⟩ = some (.int .i64 G.mark)) (first | (refine ⟨?_, ?_, ?_⟩ <;> assumption) | go_keep)
          (first
            | (go_at_call 60; refine (HSI.out _).mono ?_; rintro e w2 ⟨rfl, hb2⟩; rw [HSZ.out]; have HB2 : Hid (Below w.heap.size w w2) := HBD.out.trans (hb2.mono HBD.out.size); have q20 := keep0 hb2 pd0; have q21 := keep0 hb2 pd1; have q22 := keep0 hb2 pd2; clear hb2)
            | (go_at_call 46; refine (HAT.out _ HB2.out).mono ?_; rintro e w3 ⟨rfl, hb3⟩; rw [HA.out]; have q30 := keep0 hb3 q20; have q31 := keep0 hb3 q21; have q32 := keep0 hb3 q22; have HB3 : Hid (Below w.heap.size w w3) := HB2.out.trans (hb3.mono HB2.out.size); clear hb3)
            | (go_at_call 57; refine (gensFrom_any _ _ _ _ _ _ _ _).mono ?_; rintro e w4 ⟨rfl, hw4⟩; obtain rfl := hw4.symm; have q40 := keep0 (below3 w3 (.cells #[.slice G.wv G.N G.cap, .slice G.yv G.M G.ycap, .int .i64 G.mark] 57)) q30; have q41 := keep0 (below3 w3 (.cells #[.slice G.wv G.N G.cap, .slice G.yv G.M G.ycap, .int .i64 G.mark] 57)) q31; have q42 := keep0 (below3 w3 (.cells #[.slice G.wv G.N G.cap, .slice G.yv G.M G.ycap, .int .i64 G.mark] 57)) q32)
            | (go_at_call 47; refine (HAR.out _ HB3.out).mono ?_; rintro e w5 ⟨rfl, hb5⟩; rw [HAL.out]; have q50 := keep0 hb5 q40; have q51 := keep0 hb5 q41; have q52 := keep0 hb5 q42; have HB5 : Hid (Below w.heap.size w w5) := (HB3.out.alloc HB3.out.size _).trans (hb5.mono (HB3.out.alloc HB3.out.size _).size); clear hb5)
            | (go_at_call 62; refine (HTH.out _ HB5.out).mono ?_; rintro e w6 ⟨ths, lv, rfl, hth⟩; obtain ⟨a6, c6, rfl, hlv⟩ := lsv_of hth.row; have q60 := keep0 hth.be q50; have q61 := keep0 hth.be q51; have q62 := keep0 hth.be q52; have HTP : Hid (ThP G w5 R ths (.slice a6 ths.length c6) w6 ∧ Lsv G w6 ths a6) := ⟨hth, hlv⟩; have HB6 : Hid (Below w.heap.size w w6) := HB5.out.trans (hth.be.mono HB5.out.size); clear hth hlv)
            | (go_at_call 61; refine (ages_any (HS.out.below HB6.out) ths HTP.out.1.ok HTP.out.1.few a6 c6 HTP.out.2).mono ?_; rintro e w7 ⟨r, rfl, hr7, hb7⟩; have q70 := keep0 hb7 q60; have q71 := keep0 hb7 q61; have q72 := keep0 hb7 q62; have HB7 : Hid (Below w.heap.size w w7) := HB6.out.trans (hb7.mono HB6.out.size); have HR7 : Hid (r = true ↔ ∀ t ∈ ths, Eok G.H G.mark t.x) := hr7; clear hr7 hb7))
        | fail
        all_goals (
          go_wp2_with fail
          go_ret
          exact ⟨r, rfl, gensP_iff HSZ.out HA.out HAL.out HTP.out.1.met HR7.out, HB7.out⟩)
end Go.Proofs.Ythdoamdjhpkimaa.Gn
namespace Go.Proofs.Ythdoamdjhpkimaa.Gn
open Go.RowKit Go.Maps
set_option linter.unusedVariables false

theorem keep4m {wr w5 : World} {a b c d : Value} {t : TypeId} (hb : Below (wr.alloc (.cells #[a, b, c, d] t)).drew.heap.size (wr.alloc (.cells #[a, b, c, d] t)).drew w5) :
    (∀ o, w5.cell? ⟨wr.heap.size, o, none⟩ = (#[a, b, c, d] : Array Value)[o]?) ∧ (∀ o, w5.frozen? ⟨wr.heap.size, o, none⟩ = false) := by
  have hs : (wr.alloc (.cells #[a, b, c, d] t)).drew.heap.size = wr.heap.size + 1 := World.size_alloc _ _
  refine ⟨fun o => ?_, fun o => ?_⟩
  · rw [hb.cell (p := ⟨wr.heap.size, o, none⟩) (by show wr.heap.size < _; omega)]
    exact World.cell?_alloc_new wr _ _ o
  · rw [hb.frozen (p := ⟨wr.heap.size, o, none⟩) (by show wr.heap.size < _; omega)]
    exact World.frozen?_alloc_new wr _ _ o
theorem below_set4m {w3 wr w5 : World} (h : Below w3.heap.size w3 w5) (hr : w3.heap.size ≤ wr.heap.size) (a b c d : Value) :
    Below w3.heap.size w3 ((((w5.setCell ⟨wr.heap.size, 0, none⟩ a).setCell ⟨wr.heap.size, 1, none⟩ b).setCell ⟨wr.heap.size, 2, none⟩ c).setCell ⟨wr.heap.size, 3, none⟩ d) :=
  (((h.setCell hr _).setCell hr _).setCell hr _).setCell hr _
def rootP (G : GE) (x : Int) : Prop := (readT G.H x).isSome = true ∧ ∀ y, Rch G.H x y → leadsW y = true → Eok G.H G.mark y
theorem gensP_of {G : GE} {R : List Int} (h1 : szB G = true) (h2 : atomsB G.A = true) : gensP G R ↔ ∀ x ∈ R, rootP G x := by
  unfold gensP allB rootP
  rw [List.all_eq_true]
  exact ⟨fun h x hx => ⟨h.2.2.1 x hx, h.2.2.2 x hx⟩, fun h => ⟨h1, h2, fun x hx => (h x hx).1, fun x hx => (h x hx).2⟩⟩
theorem root_fin {G : GE} {x : Int} (h : (readT G.H x).isSome = true) : FinW G.H 612 x := all_fin (R := [x]) (by unfold allB; simp [h]) x (by simp)
theorem lk_root {G : GE} (hs : szB G = true) {x : Int} (h : (readT G.H x).isSome = true) : lkB G.H G.mark 612 x 200000 = true ↔ rootP G x := by
  obtain ⟨h1, h2, h3, h4⟩ := sz_lt hs
  have k := lk_iff (H := G.H) h3 (by omega) (fun p hp => by
    have e : G.H.len p = G.len p := rfl
    rw [e] at hp
    unfold GE.len at hp
    split at hp <;> omega) 612 x 2 (root_fin h) (Nat.le_refl _)
  have e : limW G.mark 2 = 200000 := rfl
  rw [e] at k
  rw [k]
  have ag : agW G.mark x ≤ 2 := by unfold agW; split <;> (try split) <;> omega
  exact ⟨fun q => ⟨h, q.2⟩, fun q => ⟨fun _ => ag, q.2⟩⟩
theorem sz_of {G : GE} (h1 : G.N ≤ 1000) (h2 : G.M ≤ 1000) : szB G = inB G.mark 0 G.M := by
  simp [szB, lstB, h1, h2, inB]
set_option maxHeartbeats 8000000 in
set_option maxRecDepth 100000 in
theorem specGensOk_any {G : GE} {w : World} (hs : GSrc G w) (R : List Int) (rv : Option Addr) (rcap : Nat) (hr : Roots w rv R) (hR : R.length ≤ 1048576) (hb : ∀ x ∈ R, x ≤ 9223372036854775807) :
    Calls Try.prog 37 #[.agg #[.slice G.wv G.N G.cap, .slice G.yv G.M G.ycap, .int .i64 G.mark], .slice G.av G.A.length G.acap, .slice rv R.length rcap] w (GoP G R w) := by
  have HS : Hid (GSrc G w) := hs
  have HR : Hid (Roots w rv R) := hr
  have HBR : Hid (∀ x ∈ R, x ≤ 9223372036854775807) := hb
  have hN := hs.n
  have hM := hs.m
  have q0 : ∀ o, (w.alloc (.cells #[.slice G.wv G.N G.cap, .slice G.yv G.M G.ycap, .int .i64 G.mark] 57)).cell? ⟨w.heap.size, o, none⟩ = (#[.slice G.wv G.N G.cap, .slice G.yv G.M G.ycap, .int .i64 G.mark] : Array Value)[o]? := fun o => World.cell?_alloc_new w _ _ o
  have HB : Hid (Below w.heap.size w (w.alloc (.cells #[.slice G.wv G.N G.cap, .slice G.yv G.M G.ycap, .int .i64 G.mark] 57))) := below3 w _
  have HIN : Hid (∀ w1, Calls Try.prog 58 #[.int .i64 G.mark, .int .i64 0, .int .i64 G.M] w1 fun e w' => e = .returned (.bool (inB G.mark 0 G.M)) ∧ w' = w1) := fun w1 => in_any _ _ _ w1
  have HAT : Hid (∀ w', Below w.heap.size w w' → Calls Try.prog 48 #[.slice G.av G.A.length G.acap] w' fun e w'' => e = .returned (.bool (atomsB G.A)) ∧ w'' = w') := fun w' hb' => by
    have s := HS.out.below hb'
    exact specAtoms_any G.ab G.ao G.acap G.av G.A w' s.al s.ats s.a (big_txt s.txt)
  clear hs hr hb
  by_cases h1 : G.N ≤ 1000
  case neg =>
    have hd : decide ((1000 : Int) < (G.N : Int)) = true := by simp; omega
    have HNO : Hid (¬ gensP G R) := gensP_sz (by simp [szB, lstB, h1])
    clear h1
    go_enter Try.func37, Try.ntmps37
    go_wp2_with fail
    go_ret
    exact ⟨false, rfl, ⟨fun h => (by cases h), fun h => absurd h HNO.out⟩, HB.out⟩
  case pos =>
    have hd : decide ((1000 : Int) < (G.N : Int)) = false := by simp; omega
    by_cases h2 : G.M ≤ 1000
    case neg =>
      have hd2 : decide ((1000 : Int) < (G.M : Int)) = true := by simp; omega
      have HNO : Hid (¬ gensP G R) := gensP_sz (by simp [szB, lstB, h2])
      clear h1 h2
      go_enter Try.func37, Try.ntmps37
      go_wp2_with fail
      go_ret
      exact ⟨false, rfl, ⟨fun h => (by cases h), fun h => absurd h HNO.out⟩, HB.out⟩
    case pos =>
      have hd2 : decide ((1000 : Int) < (G.M : Int)) = false := by simp; omega
      have HSZ : Hid (szB G = inB G.mark 0 G.M) := sz_of h1 h2
      have HNM : Hid (G.N ≤ 1000 ∧ G.M ≤ 1000) := ⟨h1, h2⟩
      clear h1 h2
      cases hi : inB G.mark 0 G.M with
      | false =>
        have HI : Hid (inB G.mark 0 G.M = false) := hi
        have HNO : Hid (¬ gensP G R) := gensP_sz (by rw [HSZ.out, hi])
        clear hi
        go_enter Try.func37, Try.ntmps37
        go_wp2_with (first
          | (go_at_call 58; refine (HIN.out _).mono ?_; rintro e w' ⟨rfl, hw'⟩; obtain rfl := hw'.symm; rw [HI.out]))
        go_ret
        exact ⟨false, rfl, ⟨fun h => (by cases h), fun h => absurd h HNO.out⟩, HB.out⟩
      | true =>
        have HI : Hid (inB G.mark 0 G.M = true) := hi
        have HSB : Hid (szB G = true) := by show _ = _; rw [HSZ.out, hi]
        clear hi
        cases ha : atomsB G.A with
        | false =>
          have HA : Hid (atomsB G.A = false) := ha
          have HNO : Hid (¬ gensP G R) := gensP_at ha
          clear ha
          go_enter Try.func37, Try.ntmps37
          go_wp2_with (first
            | (go_at_call 58; refine (HIN.out _).mono ?_; rintro e w' ⟨rfl, hw'⟩; obtain rfl := hw'.symm; rw [HI.out])
            | (go_at_call 48; refine (HAT.out _ HB.out).mono ?_; rintro e w2 ⟨rfl, hw2⟩; obtain rfl := hw2.symm; rw [HA.out]))
          go_ret
          exact ⟨false, rfl, ⟨fun h => (by cases h), fun h => absurd h HNO.out⟩, HB.out⟩
        | true =>
          have HA : Hid (atomsB G.A = true) := ha
          have HGP : Hid (gensP G R ↔ ∀ x ∈ R, rootP G x) := gensP_of HSB.out ha
          have HLK : Hid (∀ (w' : World) (x : Int), GSrc G w' → x ≤ 9223372036854775807 → (readT G.H x).isSome = true → Calls Try.prog 59 #[.agg #[.slice G.wv G.N G.cap, .slice G.yv G.M G.ycap, .int .i64 G.mark], .int .i64 x, .int .i64 200000] w' fun e w'' => e = .returned (.bool (lkB G.H G.mark 612 x 200000)) ∧ Below w'.heap.size w' w'') := fun w' x hs' hx' hx2 => lkT_all G (sz_lt HSB.out).2.2.1 (by have := sz_lt HSB.out; omega) 612 x 200000 w' (root_fin hx2) hx' hs'
          clear ha
          go_enter Try.func37, Try.ntmps37
          go_wp2_with (first
            | (go_at_call 58; refine (HIN.out _).mono ?_; rintro e w' ⟨rfl, hw'⟩; obtain rfl := hw'.symm; rw [HI.out])
            | (go_at_call 48; refine (HAT.out _ HB.out).mono ?_; rintro e w2 ⟨rfl, hw2⟩; obtain rfl := hw2.symm; rw [HA.out]))
          generalize w.alloc (.cells #[.slice G.wv G.N G.cap, .slice G.yv G.M G.ycap, .int .i64 G.mark] 57) = W at HB q0 ⊢
          generalize w.heap.size = X at q0 ⊢
          have HQ0 : Hid (∀ o, W.cell? ⟨X, o, none⟩ = (#[.slice G.wv G.N G.cap, .slice G.yv G.M G.ycap, .int .i64 G.mark] : Array Value)[o]?) := q0
          go_loopw [7] (fun i wr => ∃ m : Nat, i = .int .i64 m ∧ m ≤ R.length ∧ (∀ x ∈ R.take m, rootP G x) ∧ Below W.heap.size W wr) (fun i _ => R.length - (intOf i).toNat)
          case atStart => exact ⟨0, rfl, Nat.zero_le _, by simp, Below.refl _ _⟩
          case round =>
            obtain ⟨m, rfl, hm, hall, hbe⟩ := hrel
            have c4 : ∀ o, wr.cell? ⟨X, o, none⟩ = (#[.slice G.wv G.N G.cap, .slice G.yv G.M G.ycap, .int .i64 G.mark] : Array Value)[o]? := keep3 hbe q0
            have HBW : Hid (Below w.heap.size w wr ∧ Below W.heap.size W wr) := ⟨HB.out.trans (hbe.mono HB.out.size), hbe⟩
            have HALL : Hid (∀ x ∈ R.take m, rootP G x) := hall
            clear hall hbe q0
            by_cases hlt : m < R.length
            case neg =>
              have hlti : ¬ (m : Int) < (R.length : Int) := by omega
              go_wp2_with fail
              go_ret
              refine ⟨true, rfl, ⟨fun _ => HGP.out.2 ?_, fun _ => rfl⟩, HBW.out.1⟩
              have h := HALL.out
              rw [List.take_of_length_le (by omega)] at h
              exact h
            case pos =>
              have hlti : (m : Int) < (R.length : Int) := by omega
              obtain ⟨rb, ro, hrv, hcs⟩ := HR.out (by omega)
              subst hrv
              have r0 := hcs m hlt
              obtain ⟨x, hx⟩ : ∃ x, R[m] = x := ⟨_, rfl⟩
              have HTX : Hid (R.take (m + 1) = R.take m ++ [x] ∧ x ∈ R) := ⟨by rw [take_snoc hlt, hx], by rw [← hx]; exact List.getElem_mem hlt⟩
              rw [hx] at r0
              have r4 := (HBW.out.1.cell (p := ⟨rb, ro + m, none⟩) (World.block_lt_of_cell? _ _ r0)).trans r0
              have HX : Hid (x ≤ 9223372036854775807) := HBR.out x HTX.out.2
              have e0 : wr.cell? ⟨X, 0, none⟩ = some (.slice G.wv G.N G.cap) := c4 0
              have hXl : X < wr.heap.size := World.block_lt_of_cell? _ _ e0
              have hGl : rb < wr.heap.size := World.block_lt_of_cell? _ _ r4
              have c4a : ∀ o, (wr.alloc (.cells #[.int .i64 0, .int .i64 0, .string ⟨#[]⟩, .slice none 0 0] 32)).cell? ⟨X, o, none⟩ = (#[.slice G.wv G.N G.cap, .slice G.yv G.M G.ycap, .int .i64 G.mark] : Array Value)[o]? := keep3 (below3 wr _) c4
              have r4a : (wr.alloc (.cells #[.int .i64 0, .int .i64 0, .string ⟨#[]⟩, .slice none 0 0] 32)).cell? ⟨rb, ro + m, none⟩ = some (.int .i64 x) := by rw [World.cell?_alloc_lt (h := hGl)]; exact r4
              have nX : ¬ X = wr.heap.size := by omega
              have nG : ¬ rb = wr.heap.size := by omega
              have HKR : Hid (∀ w', Below W.heap.size W w' → w'.cell? ⟨rb, ro + m, none⟩ = some (.int .i64 x) ∧ ∀ o, w'.cell? ⟨X, o, none⟩ = (#[.slice G.wv G.N G.cap, .slice G.yv G.M G.ycap, .int .i64 G.mark] : Array Value)[o]?) := fun w' hb' => ⟨((HB.out.trans (hb'.mono HB.out.size)).cell (p := ⟨rb, ro + m, none⟩) (World.block_lt_of_cell? _ _ r0)).trans r0, keep3 hb' HQ0.out⟩
              have KW : Hid (Below W.heap.size W wr.drew ∧ Below W.heap.size W (wr.alloc (.cells #[.int .i64 0, .int .i64 0, .string ⟨#[]⟩, .slice none 0 0] 32)).drew) := ⟨HBW.out.2.drew, (HBW.out.2.alloc HBW.out.2.size _).drew⟩
              have HRJ : Hid (∀ w', Below W.heap.size W w' → Calls Try.prog 32 #[.agg #[.slice G.wv G.N G.cap, .slice G.yv G.M G.ycap, .int .i64 G.mark], .slice G.av G.A.length G.acap, .int .i64 x] w' fun e w'' => ∃ a b c d' e' f, e = .returned (.tuple #[.agg #[.int .i64 a, .int .i64 b, .string c, .slice d' e' f], .bool (readT G.H x).isSome]) ∧ Below w'.heap.size w' w'') := fun w' hb' => by
                refine (specGensRead_any G w' (HS.out.below (HB.out.trans (hb'.mono HB.out.size))) x HX.out).mono ?_
                rintro e w'' ⟨a, b, c, d', e', f, rfl, hb, _⟩
                exact ⟨a, b, c, d', e', f, rfl, hb⟩
              clear r0 hcs hx e0 hXl hGl
              go_wp2_with fail
              go_cut [8, 9] from 40 to 49 (fun v8 v9 wx => ∃ k : Nat, v8 = .pointer (some ⟨k, 0, none⟩) ∧ v9 = .bool (readT G.H x).isSome ∧ Below W.heap.size W wx)
              case first =>
                go_region_law (go_simp; go_wp2_with (
                  (go_at_call 32; first
                    | ((conv in (World.alloc wr (.cells #[.int .i64 0, .int .i64 0, .string ⟨#[]⟩, .slice none 0 0] 32)) => skip); refine (HRJ.out _ KW.out.2).mono ?_; rintro e w5 ⟨a5, b5, cc5, d5, e5, f5, rfl, hb5⟩; obtain ⟨q5, z5⟩ := keep4m hb5; have HB5 : Hid (Below W.heap.size W w5) := KW.out.2.trans (hb5.mono KW.out.2.size); clear hb5)
                    | (refine (HRJ.out _ KW.out.1).mono ?_; rintro e w5 ⟨a5, b5, cc5, d5, e5, f5, rfl, hb5⟩; have HB5 : Hid (Below W.heap.size W w5) := KW.out.1.trans (hb5.mono KW.out.1.size); clear hb5))))
                all_goals
                  go_wp2_with fail
                  go_meet
                  case rel =>
                    refine ⟨_, rfl, rfl, ?_⟩
                    first
                      | exact HB5.out.alloc HB5.out.size _
                      | exact below_set4m HB5.out HBW.out.2.size _ _ _ _
              case rest =>
                obtain ⟨k, rfl, rfl, hwx⟩ := hcut
                have HWX : Hid (Below W.heap.size W wc) := hwx
                obtain ⟨r9, c9⟩ := HKR.out wc hwx
                have d0 : wc.cell? ⟨X, 0, none⟩ = some (.slice G.wv G.N G.cap) := c9 0
                have d1 : wc.cell? ⟨X, 1, none⟩ = some (.slice G.yv G.M G.ycap) := c9 1
                have d2 : wc.cell? ⟨X, 2, none⟩ = some (.int .i64 G.mark) := c9 2
                have k0 := Inn.keep d0
                have k1 := Inn.keep d1
                have k2 := Inn.keep d2
                have k3 := Inn.keep r9
                haveI := inn_ne wc
                clear c4 c4a r4 r4a nX nG KW HRJ HKR hwx c9
                cases hrd : (readT G.H x).isSome with
                | false =>
                  have HNO : Hid (¬ gensP G R) := fun h => by have := ((HGP.out.1 h) x HTX.out.2).1; rw [hrd] at this; cases this
                  clear hrd
                  go_wp2_with fail
                  refine wp_region_inn ?_ ?_ ?_
                  · kernel_rfl
                  · kernel_rfl
                  repeat (go_big_quiet_step (fail))
                  refine wpQuiet_nil ?_
                  rintro w1 ⟨y1, h1⟩
                  have hb1 : Below wc.heap.size wc w1 := by rw [h1]; exact y1.bel
                  have HB1 : Hid (Below W.heap.size W w1) := HWX.out.trans (hb1.mono HWX.out.size)
                  clear h1 hb1 y1 k0 k1 k2 k3 d0 d1 d2 r9
                  go_wp2_with fail
                  go_ret
                  exact ⟨false, rfl, ⟨fun h => (by cases h), fun h => absurd h HNO.out⟩, HB.out.trans (HB1.out.mono HB.out.size)⟩
                | true =>
                  have HRD : Hid ((readT G.H x).isSome = true) := hrd
                  have hlk := lk_root HSB.out hrd
                  have HLE : Hid (∀ y : Inn wc, Calls Try.prog 59 #[.agg #[.slice G.wv G.N G.cap, .slice G.yv G.M G.ycap, .int .i64 G.mark], .int .i64 x, .int .i64 200000] y.val fun e w' => e = .returned (.bool (lkB G.H G.mark 612 x 200000)) ∧ Below y.val.heap.size y.val w') := fun y => HLK.out y.val x (HS.out.below ((HB.out.trans (HWX.out.mono HB.out.size)).trans (y.bel.mono (HB.out.trans (HWX.out.mono HB.out.size)).size))) HX.out HRD.out
                  generalize lkB G.H G.mark 612 x 200000 = bl at hlk HLE
                  have HL : Hid (bl = true ↔ rootP G x) := hlk
                  clear hrd hlk
                  cases bl with
                  | false =>
                    have HNO : Hid (¬ gensP G R) := fun h => by have := HL.out.2 ((HGP.out.1 h) x HTX.out.2); cases this
                    go_wp2_with fail
                    refine wp_region_inn ?_ ?_ ?_
                    · kernel_rfl
                    · kernel_rfl
                    repeat (go_big_quiet_step (first
                      | (go_at_call 59; exact calls_inn (HLE.out _))))
                    refine wpQuiet_nil ?_
                    rintro w1 ⟨y1, h1⟩
                    have hb1 : Below wc.heap.size wc w1 := by rw [h1]; exact y1.bel
                    have HB1 : Hid (Below W.heap.size W w1) := HWX.out.trans (hb1.mono HWX.out.size)
                    clear h1 hb1 y1 k0 k1 k2 k3 d0 d1 d2 r9 HLE
                    go_wp2_with fail
                    go_ret
                    exact ⟨false, rfl, ⟨fun h => (by cases h), fun h => absurd h HNO.out⟩, HB.out.trans (HB1.out.mono HB.out.size)⟩
                  | true =>
                    go_wp2_with fail
                    refine wp_region_inn ?_ ?_ ?_
                    · kernel_rfl
                    · kernel_rfl
                    repeat (go_big_quiet_step (first
                      | (go_at_call 59; exact calls_inn (HLE.out _))))
                    refine wpQuiet_nil ?_
                    rintro w1 ⟨y1, h1⟩
                    have hb1 : Below wc.heap.size wc w1 := by rw [h1]; exact y1.bel
                    have HB1 : Hid (Below W.heap.size W w1) := HWX.out.trans (hb1.mono HWX.out.size)
                    clear h1 hb1 y1 k0 k1 k2 k3 d0 d1 d2 r9 HLE
                    have V1 : IntKind.i64.wrap ((m : Int) + 1) = (m : Int) + 1 := by rw [IntKind.wrap_i64]; omega
                    go_wp2_with fail
                    go_roundw
                    case rel =>
                      refine ⟨m + 1, by congr 1, by omega, ?_, HB1.out⟩
                      rw [HTX.out.1]
                      exact all_snoc HALL.out (HL.out.1 (by first | rfl | trivial))
                    case measure => simp [intOf]; omega
end Go.Proofs.Ythdoamdjhpkimaa.Gn

namespace Go.Proofs.Ythdoamdjhpkimaa
open Go.RowKit
set_option linter.unusedVariables false

/-- What the copies are read from. -/
abbrev geO (N : Nat) (f : Nat → Int) (M : Nat) (h : Nat → Int) (mk : Int) (L : List ByteArray) (g y s : Nat) : Gn.GE := ⟨N, f, some ⟨g, 0, none⟩, g, 0, N, M, h, some ⟨y, 0, none⟩, y, 0, M, mk, L, some ⟨s, 0, none⟩, s, 0, L.length⟩
theorem gsrcO {w : World} {N M : Nat} {f h : Nat → Int} {mk : Int} {L : List ByteArray} {g y s : Nat} (hi : IG w g y N M f h) (ht : Txt w s 0 L) (hF : Few N M) (hL : L.length ≤ 1048576) (hf : ∀ j, f j ≤ 9223372036854775807) (hh : ∀ j, h j ≤ 9223372036854775807) (hs : ∀ x ∈ L, x.size ≤ 1048576) : Gn.GSrc (geO N f M h mk L g y s) w :=
  ⟨hF.1, hF.2.1, hL, .inl ⟨rfl, Nat.le_refl _⟩, .inl ⟨rfl, Nat.le_refl _⟩, fun _ => rfl, fun j hj => hi.o.cell j hj, fun j hj => hi.i.cell j hj, ht, hf, hh, hs⟩
theorem gRoots_of {w : World} {n r : Nat} {g : Nat → Int} (hi : Ints w r 0 n g) : Roots w (some ⟨r, 0, none⟩) (rootsOf n g) := fun _ => ⟨r, 0, rfl, fun j hj => by
  have hj' : j < n := by rw [roots_len] at hj; exact hj
  have e : (rootsOf n g)[j] = g j := by simp [rootsOf]
  rw [e]
  exact hi.cell j hj'⟩
theorem gRoots_big {n : Nat} {g : Nat → Int} (h : ∀ j, g j ≤ 9223372036854775807) : ∀ x ∈ rootsOf n g, x ≤ 9223372036854775807 := fun x hx => by
  obtain ⟨j, _, rfl⟩ := List.mem_map.1 hx
  exact h j
theorem same_bool {a b : Bool} {P Q : Prop} (h : a = true ↔ P) (k : b = true ↔ Q) (e : P ↔ Q) : a = b := by
  have : a = true ↔ b = true := h.trans (e.trans k.symm)
  cases a <;> cases b <;> simp_all
set_option maxHeartbeats 4000000 in
set_option maxRecDepth 100000 in
theorem gensOk_law (ao : Option Addr) (N cap : Nat) (f : Nat → Int) (yo : Option Addr) (M ycap : Nat) (fy : Nat → Int) (mk : Int) (av : Option Addr) (acap : Nat) (L : List ByteArray) (rv : Option Addr) (rN rcap : Nat) (g : Nat → Int) (w : World)
    (hr : RdG w ao N f yo M fy) (hN : N ≤ maxLen) (hM : M ≤ maxLen) (hf : ∀ j, f j ≤ 9223372036854775807) (hfy : ∀ j, fy j ≤ 9223372036854775807) (hT : RdT w av L) (hL : L.length ≤ maxLen) (hs : ∀ x ∈ L, x.size ≤ maxLen) (hg : RdI w rv rN g) (hgb : ∀ j, g j ≤ 9223372036854775807) (hR : rN ≤ maxLen) :
    Calls Try.prog 8 #[.agg #[.slice ao N cap, .slice yo M ycap, .int .i64 mk], .slice av L.length acap, .slice rv rN rcap] w fun e w' => e = .returned (.bool true) ∧ Below w.heap.size w w' := by
  have HR : Hid (RdG w ao N f yo M fy) := hr
  have HM : Hid (M ≤ maxLen) := hM
  have HFY : Hid (∀ j, fy j ≤ 9223372036854775807) := hfy
  have HN : Hid (N ≤ maxLen) := hN
  have HF : Hid (∀ j, f j ≤ 9223372036854775807) := hf
  have HT : Hid (RdT w av L) := hT
  have HL : Hid (L.length ≤ maxLen) := hL
  have HS : Hid (∀ x ∈ L, x.size ≤ maxLen) := hs
  have HG : Hid (RdI w rv rN g) := hg
  have HGB : Hid (∀ j, g j ≤ 9223372036854775807) := hgb
  clear hr hN hf hT hL hs hg hgb hM hfy
  unfold maxLen at hR
  by_cases hrb : rN ≤ 1048576
  case neg =>
    go_enter Try.func8, Try.ntmps8
    go_wp2_with fail
    go_ret
    exact ⟨rfl, (Below.refl _ _).alloc (Nat.le_refl _) _⟩
  case pos =>
    have HRB : Hid (rN ≤ 1048576) := hrb
    go_enter Try.func8, Try.ntmps8
    go_wp2_with fail
    generalize hW1 : w.alloc (.cells #[.slice ao N cap, .slice yo M ycap, .int .i64 mk] 54) = w1
    have hb1 : Below w.heap.size w w1 := by rw [← hW1]; exact (Below.refl _ _).alloc (Nat.le_refl _) _
    have q1 : ∀ o, w1.cell? ⟨w.heap.size, o, none⟩ = (#[.slice ao N cap, .slice yo M ycap, .int .i64 mk] : Array Value)[o]? := fun o => by rw [← hW1]; exact World.cell?_alloc_new w _ _ o
    have HB1 : Hid (Below w.heap.size w w1) := hb1
    have HQ1 : Hid (∀ o, w1.cell? ⟨w.heap.size, o, none⟩ = (#[.slice ao N cap, .slice yo M ycap, .int .i64 mk] : Array Value)[o]?) := q1
    have HR1 : Hid (RdG w1 ao N f yo M fy) := HR.out.below hb1
    have HT1 : Hid (RdT w1 av L) := HT.out.below hb1
    have HG1 : Hid (RdI w1 rv rN g) := HG.out.below hb1
    clear hW1 hb1 HR HT HG
    refine (szGens_any ao N cap yo M ycap mk 1048576 HN.out HM.out rfl _).mono ?_
    rintro e w2 ⟨y, rfl, hb2, hy1, hys⟩
    have q2 := keep3 hb2 HQ1.out
    have HB2 : Hid (Below w1.heap.size w1 w2) := hb2
    clear hb2 q1
    have HYS : Hid (0 ≤ y → Few N M ∧ y ≤ 1048576) := hys
    clear hys
    by_cases hy0 : 0 ≤ y
    case neg =>
      have e : y = -1 := by omega
      subst e
      go_wp2_with fail
      go_ret
      exact ⟨rfl, HB1.out.trans (HB2.out.mono HB1.out.size)⟩
    case pos =>
      have HNS : Hid (Few N M) := (HYS.out hy0).1
      have hy2 := (HYS.out hy0).2
      have HY0 : Hid (0 ≤ y) := hy0
      have HY2 : Hid (y ≤ 1048576) := hy2
      go_wp2_with fail
      refine (szStr2_any av acap L w2 (HT1.out.below HB2.out) HL.out HS.out y HY0.out HY2.out).mono ?_
      rintro e w3 ⟨z, rfl, hw3, hz, hzl⟩
      obtain rfl := hw3.symm
      by_cases hz0 : 0 ≤ z
      case neg =>
        have e : z = -1 := by omega
        subst e
        go_wp2_with fail
        go_ret
        exact ⟨rfl, HB1.out.trans (HB2.out.mono HB1.out.size)⟩
      case pos =>
        have HLS : Hid (L.length ≤ 1048576) := (hzl hz0).1
        have HSB : Hid (∀ x ∈ L, x.size ≤ 1048576) := (hzl hz0).2
        clear hzl
        go_wp2_with fail
        -- the specification's answer
        refine (toGens_any ao N cap f yo M ycap fy mk w2 (HR1.out.below HB2.out) HNS.out).mono ?_
        rintro e w4 ⟨g4, y4, rfl, hg4, hi4, hl4, hb4⟩
        have HI4 : Hid (IG w4 g4 y4 N M f fy) := hi4
        have hgl4 : y4 < w4.heap.size := hl4
        have HB4 : Hid (Below w1.heap.size w1 w4) := HB2.out.trans (hb4.mono HB2.out.size)
        have q4 := keep3 hb4 q2
        clear hi4 hl4 hb4
        go_wp2_with fail
        refine (toStr_any av acap L w4 (HT1.out.below HB4.out) HLS.out).mono ?_
        rintro e w5 ⟨rfl, hi5, hl5, hb5⟩
        have HT5 : Hid (Txt w5 w4.heap.size 0 L) := hi5.txt
        have HI5 : Hid (IG w5 g4 y4 N M f fy) := HI4.out.below hb5 hgl4
        have HB5 : Hid (Below w1.heap.size w1 w5) := HB4.out.trans (hb5.mono HB4.out.size)
        have q5 := keep3 hb5 q4
        have hl5' : w4.heap.size < w5.heap.size := hl5
        clear hi5 hl5 hb5
        go_wp2_with fail
        refine (toIntS_any rv rN rcap g w5 (HG1.out.below HB5.out) HRB.out).mono ?_
        rintro e w6 ⟨rfl, hi6, hl6, hb6⟩
        have HI6 : Hid (Ints w6 w5.heap.size 0 rN g) := hi6
        have HT6 : Hid (Txt w6 w4.heap.size 0 L) := HT5.out.below hb6
        have HJ6 : Hid (IG w6 g4 y4 N M f fy) := HI5.out.below hb6 (by omega)
        have HB6 : Hid (Below w1.heap.size w1 w6) := HB5.out.trans (hb6.mono HB5.out.size)
        have q6 := keep3 hb6 q5
        clear hi6 hl6 hb6
        have SP := Gn.specGensOk_any (G := geO N f M fy mk L g4 y4 w4.heap.size) (w := w6) (gsrcO HJ6.out HT6.out HNS.out HLS.out HF.out HFY.out HSB.out) (rootsOf rN g) (some ⟨w5.heap.size, 0, none⟩) rN (gRoots_of HI6.out) (by rw [roots_len]; exact HRB.out) (gRoots_big HGB.out)
        rw [roots_len] at SP
        have HSP : Hid (Calls Try.prog 37 #[.agg #[.slice (some ⟨g4, 0, none⟩) N N, .slice (some ⟨y4, 0, none⟩) M M, .int .i64 mk], .slice (some ⟨w4.heap.size, 0, none⟩) L.length L.length, .slice (some ⟨w5.heap.size, 0, none⟩) rN rN] w6 (Gn.GoP (geO N f M fy mk L g4 y4 w4.heap.size) (rootsOf rN g) w6)) := SP
        clear SP
        go_wp2_with fail
        refine HSP.out.mono ?_
        rintro e w7 ⟨A, rfl, hA, hb7⟩
        have HB7 : Hid (Below w1.heap.size w1 w7) := HB6.out.trans (hb7.mono HB6.out.size)
        have q7 := keep3 hb7 q6
        clear hb7 HSP q2 q4 q5 q6
        have HA : Hid (A = true ↔ Gn.gensP (geO N f M fy mk L g4 y4 w4.heap.size) (rootsOf rN g)) := hA
        clear hA
        -- the program's
        go_wp2_with fail
        refine (toGens_any ao N cap f yo M ycap fy mk w7 (HR1.out.below HB7.out) HNS.out).mono ?_
        rintro e w8 ⟨g8, y8, rfl, hg8, hi8, hl8, hb8⟩
        have HI8 : Hid (IG w8 g8 y8 N M f fy) := hi8
        have hgl8 : y8 < w8.heap.size := hl8
        have HB8 : Hid (Below w1.heap.size w1 w8) := HB7.out.trans (hb8.mono HB7.out.size)
        have q8 := keep3 hb8 q7
        clear hi8 hl8 hb8
        go_wp2_with fail
        generalize hW9 : w8.alloc (.cells #[.slice (some ⟨g8, 0, none⟩) N N, .slice (some ⟨y8, 0, none⟩) M M, .int .i64 mk] 57) = w9
        have hb9 : Below w8.heap.size w8 w9 := by rw [← hW9]; exact (Below.refl _ _).alloc (Nat.le_refl _) _
        have x9 : ∀ o, w9.cell? ⟨w8.heap.size, o, none⟩ = (#[.slice (some ⟨g8, 0, none⟩) N N, .slice (some ⟨y8, 0, none⟩) M M, .int .i64 mk] : Array Value)[o]? := fun o => by rw [← hW9]; exact World.cell?_alloc_new w8 _ _ o
        have HI9 : Hid (IG w9 g8 y8 N M f fy) := HI8.out.below hb9 hgl8
        have hgl9 : y8 < w9.heap.size := Nat.lt_of_lt_of_le hgl8 hb9.size
        have HB9 : Hid (Below w1.heap.size w1 w9) := HB8.out.trans (hb9.mono HB8.out.size)
        have q9 := keep3 hb9 q8
        clear hW9 hb9 q7 q8
        refine (toStr_any av acap L w9 (HT1.out.below HB9.out) HLS.out).mono ?_
        rintro e w10 ⟨rfl, hi10, hl10, hb10⟩
        have HT10 : Hid (Txt w10 w9.heap.size 0 L) := hi10.txt
        have HI10 : Hid (IG w10 g8 y8 N M f fy) := HI9.out.below hb10 hgl9
        have hgl10 : y8 < w10.heap.size := Nat.lt_of_lt_of_le hgl9 hb10.size
        have HB10 : Hid (Below w1.heap.size w1 w10) := HB9.out.trans (hb10.mono HB9.out.size)
        have q10 := keep3 hb10 q9
        have x10 := keep3 hb10 x9
        clear hi10 hl10 hb10
        go_wp2_with fail
        refine (toIntS_any rv rN rcap g w10 (HG1.out.below HB10.out) HRB.out).mono ?_
        rintro e w11 ⟨rfl, hi11, hl11, hb11⟩
        have HR11 : Hid (Ints w11 w10.heap.size 0 rN g) := hi11
        have hrl11 : w10.heap.size < w11.heap.size := hl11
        have HT11 : Hid (Txt w11 w9.heap.size 0 L) := HT10.out.below hb11
        have HI11 : Hid (IG w11 g8 y8 N M f fy) := HI10.out.below hb11 hgl10
        have hgl11 : y8 < w11.heap.size := Nat.lt_of_lt_of_le hgl10 hb11.size
        have HB11 : Hid (Below w1.heap.size w1 w11) := HB10.out.trans (hb11.mono HB10.out.size)
        have q11 := keep3 hb11 q10
        have x11 := keep3 hb11 x10
        clear hi11 hl11 hb11 q9 q10 x9 x10
        have IM := Gn.implGensOk_any (G := geO N f M fy mk L g8 y8 w9.heap.size) (w := w11) (gsrcO HI11.out HT11.out HNS.out HLS.out HF.out HFY.out HSB.out) (rootsOf rN g) (some ⟨w10.heap.size, 0, none⟩) rN (gRoots_of HR11.out) (by rw [roots_len]; exact HRB.out) (gRoots_big HGB.out)
        rw [roots_len] at IM
        have HIM : Hid (Calls Try.prog 38 #[.agg #[.slice (some ⟨g8, 0, none⟩) N N, .slice (some ⟨y8, 0, none⟩) M M, .int .i64 mk], .slice (some ⟨w9.heap.size, 0, none⟩) L.length L.length, .slice (some ⟨w10.heap.size, 0, none⟩) rN rN] w11 (Gn.GoP (geO N f M fy mk L g8 y8 w9.heap.size) (rootsOf rN g) w11)) := IM
        clear IM
        go_wp2_with fail
        refine HIM.out.mono ?_
        rintro e w12 ⟨A', rfl, hA', hb12⟩
        obtain rfl : A' = A := same_bool hA' HA.out Iff.rfl
        clear hA'
        have HR12 : Hid (Ints w12 w10.heap.size 0 rN g) := HR11.out.below hb12 hrl11
        have HT12 : Hid (Txt w12 w9.heap.size 0 L) := HT11.out.below hb12
        have HI12 : Hid (IG w12 g8 y8 N M f fy) := HI11.out.below hb12 hgl11
        have hgl12 : y8 < w12.heap.size := Nat.lt_of_lt_of_le hgl11 hb12.size
        have hrl12 : w10.heap.size < w12.heap.size := Nat.lt_of_lt_of_le hrl11 hb12.size
        have HB12 : Hid (Below w1.heap.size w1 w12) := HB11.out.trans (hb12.mono HB11.out.size)
        have q12 := keep3 hb12 q11
        have x12 := keep3 hb12 x11
        clear hb12 q11 x11 HIM
        go_wp2_with fail
        go_region_law (go_simp; go_wp2_with (first
          | (go_at_call 33; refine (toGens_any ao N cap f yo M ycap fy mk _ (HR1.out.below HB12.out.drew) HNS.out).mono ?_; rintro e w13 ⟨g13, y13, rfl, hg13, hi13, hl13, hb13⟩; have HC13 : Hid (Below w12.heap.size w12 w13) := bundrew2 hb13; have HI13 : Hid (IG w13 g13 y13 N M f fy ∧ IG w13 g8 y8 N M f fy) := ⟨hi13, HI12.out.below HC13.out hgl12⟩; have x13 := keep3 HC13.out x12; have q13 := keep3 HC13.out q12; clear hg13 hi13 hl13 hb13)
          | (go_at_call 35; refine (eqGens_same _ _ _ _ N N N M M M f fy mk w13 HI13.out.2.o.rdI HI13.out.1.o.rdI HI13.out.2.i.rdI HI13.out.1.i.rdI HNS.out).mono ?_; rintro e w14 ⟨rfl, hb14⟩; have HC14 : Hid (Below w12.heap.size w12 w14) := HC13.out.trans (hb14.mono HC13.out.size); clear hb14)))
        all_goals
          have HT14 : Hid (Txt w14 w9.heap.size 0 L) := HT12.out.below HC14.out
          have HR14 : Hid (Ints w14 w10.heap.size 0 rN g) := HR12.out.below HC14.out hrl12
          have HB14 : Hid (Below w1.heap.size w1 w14) := HB12.out.trans (HC14.out.mono HB12.out.size)
          have hrl14 : w10.heap.size < w14.heap.size := Nat.lt_of_lt_of_le hrl12 HC14.out.size
          go_wp2_with fail
          refine (toStr_any av acap L w14 (HT1.out.below HB14.out) HLS.out).mono ?_
          rintro e w15 ⟨rfl, hi15, hl15, hb15⟩
          have HS15 : Hid (Txt w15 w14.heap.size 0 L) := hi15.txt
          have HT15 : Hid (Txt w15 w9.heap.size 0 L) := HT14.out.below hb15
          have HR15 : Hid (Ints w15 w10.heap.size 0 rN g) := HR14.out.below hb15 hrl14
          have hrl15 : w10.heap.size < w15.heap.size := Nat.lt_of_lt_of_le hrl14 hb15.size
          have HB15 : Hid (Below w1.heap.size w1 w15) := HB14.out.trans (hb15.mono HB14.out.size)
          clear hi15 hl15 hb15
          go_wp2_with fail
          refine (eqStr_same (some ⟨w9.heap.size, 0, none⟩) (some ⟨w14.heap.size, 0, none⟩) L.length L.length L w15 HT15.out.rd HS15.out.rd (by have := HLS.out; omega)).mono ?_
          rintro e w16 ⟨rfl, hb16⟩
          have HR16 : Hid (Ints w16 w10.heap.size 0 rN g) := HR15.out.below hb16 hrl15
          have hrl16 : w10.heap.size < w16.heap.size := Nat.lt_of_lt_of_le hrl15 hb16.size
          have HB16 : Hid (Below w1.heap.size w1 w16) := HB15.out.trans (hb16.mono HB15.out.size)
          clear hb16
          go_wp2_with fail
          refine (toIntS_any rv rN rcap g w16 (HG1.out.below HB16.out) HRB.out).mono ?_
          rintro e w17 ⟨rfl, hi17, hl17, hb17⟩
          have HI17 : Hid (Ints w17 w16.heap.size 0 rN g) := hi17
          have HR17 : Hid (Ints w17 w10.heap.size 0 rN g) := HR16.out.below hb17 hrl16
          have HB17 : Hid (Below w1.heap.size w1 w17) := HB16.out.trans (hb17.mono HB16.out.size)
          clear hi17 hl17 hb17
          go_wp2_with fail
          refine (eqIntS_same _ _ rN rN rN g g w17 HR17.out.rdI HI17.out.rdI (fun _ _ => rfl) HRB.out).mono ?_
          rintro e w18 ⟨rfl, hb18⟩
          have HB18 : Hid (Below w1.heap.size w1 w18) := HB17.out.trans (hb18.mono HB17.out.size)
          clear hb18
          go_wp2_with fail
          go_ret
          exact ⟨rfl, HB1.out.trans (HB18.out.mono HB1.out.size)⟩
end Go.Proofs.Ythdoamdjhpkimaa
namespace Go.Proofs.Ythdoamdjhpkimaa.fnExactGensOk
open Go.RowKit Go.ChangeShapes Go.WideShapes Go.ChangeAt
set_option linter.unusedVariables false

theorem own : ownKnob Try.prog.godebug = none := by kernel_rfl
theorem laidOut : laidOutB Try.prog = true := by kernel_rfl
theorem cellsGens : Try.prog.cellsOf 54 = 3 := by kernel_rfl
theorem cellsInt : Try.prog.cellsOf 3 = 1 := by kernel_rfl
theorem cellsInts : Try.prog.cellsOf 24 = 1 := by kernel_rfl
theorem ints_open {H : Type} {enc : TypeId × Value → H} {w : World} {base : Nat} {spare : Nat → Bool} {held : Bool} (m : Nat) (v0 : Value) (y0 : DataW H × List MemPlace) (g0 : DataW.trod enc Try.prog w base spare held m 24 [v0] = some y0) :
    ∃ (ao : Option Addr) (N cap : Nat) (f : Nat → Int), v0 = .slice ao N cap ∧ RdI w ao N f ∧ N ≤ cap ∧ cap ≤ maxLen ∧ ∀ j, f j ≤ 9223372036854775807 := by
  rcases open_ints Try.underlying24 Try.underlying3 (by kernel_rfl) g0 with ⟨hcs, _⟩ | ⟨a, l, c, zs, hcs, _, hle, hm, hz, _, hcell, hwz⟩
  · simp only [List.cons.injEq, and_true] at hcs
    subst hcs
    exact ⟨none, 0, 0, fun _ => 0, rfl, fun h => absurd rfl h, Nat.le_refl _, Nat.zero_le _, fun _ => (by show (0 : Int) ≤ _; decide)⟩
  · simp only [List.cons.injEq, and_true] at hcs
    subst hcs
    refine ⟨some a, l, c, fun j => zs.getD j 0, rfl, fun hn => ?_, hle, hm, fun j => ?_⟩
    · have hzl : l ≤ zs.length := by rw [hz]; split <;> omega
      obtain ⟨b, off, spot⟩ := a
      have q0 := hcell 0 (by omega)
      have hs : spot = none := by simpa [Addr.add] using World.cell?_spot q0
      subst hs
      refine ⟨b, off, rfl, fun j hj => ?_⟩
      have := hcell j (by omega)
      rw [Addr.add_lit] at this
      exact this
    · show zs.getD j 0 ≤ _
      by_cases hj : j < zs.length
      · have e : zs.getD j 0 = zs[j] := by simp [hj]
        rw [e]
        exact i64_le (hwz _ (List.getElem_mem hj))
      · have e : zs.getD j 0 = 0 := by simp [hj]
        rw [e]; decide
set_option maxRecDepth 100000 in
theorem gens_open {H : Type} {enc : TypeId × Value → H} {w : World} {base : Nat} {spare : Nat → Bool} {held : Bool} (fuel : Nat) (cs : List Value) (x : DataW H × List MemPlace) (h : DataW.trod enc Try.prog w base spare held fuel 54 cs = some x) :
    ∃ (ao : Option Addr) (N cap : Nat) (f : Nat → Int) (yo : Option Addr) (M ycap : Nat) (fy : Nat → Int) (mk : Int), cs = [.slice ao N cap, .slice yo M ycap, .int .i64 mk] ∧ RdI w ao N f ∧ N ≤ cap ∧ cap ≤ maxLen ∧ (∀ j, f j ≤ 9223372036854775807) ∧ RdI w yo M fy ∧ M ≤ ycap ∧ ycap ≤ maxLen ∧ (∀ j, fy j ≤ 9223372036854775807) := by
  obtain ⟨xs, m, hfu, _, hl, hlen, hf⟩ := DataW.trod_struct Try.underlying54 h
  rw [cellsGens] at hl
  match cs, hl, xs, hlen with
  | [v0, v1, v2], _, [y0, y1, y2], _ =>
    have h0 : DataW.trod enc Try.prog w base spare held m 24 (([v0, v1, v2].drop 0).take (Try.prog.cellsOf 24)) = some y0 := hf 0 _ rfl
    have h1 : DataW.trod enc Try.prog w base spare held m 24 (([v0, v1, v2].drop 1).take (Try.prog.cellsOf 24)) = some y1 := hf 1 _ rfl
    have h2 : DataW.trod enc Try.prog w base spare held m 3 (([v0, v1, v2].drop 2).take (Try.prog.cellsOf 3)) = some y2 := hf 2 _ rfl
    rw [cellsInts] at h0 h1
    rw [cellsInt] at h2
    have g0 : DataW.trod enc Try.prog w base spare held m 24 [v0] = some y0 := h0
    have g1 : DataW.trod enc Try.prog w base spare held m 24 [v1] = some y1 := h1
    have g2 : DataW.trod enc Try.prog w base spare held m 3 [v2] = some y2 := h2
    obtain ⟨ao, N, cap, f, rfl, a1, a2, a3, a4⟩ := ints_open m v0 y0 g0
    obtain ⟨yo, M, ycap, fy, rfl, b1, b2, b3, b4⟩ := ints_open m v1 y1 g1
    obtain ⟨mk, e2, _, _⟩ := DataW.trod_int Try.underlying3 g2
    obtain rfl : v2 = .int .i64 mk := by simpa using e2
    exact ⟨ao, N, cap, f, yo, M, ycap, fy, mk, rfl, a1, a2, a3, a4, b1, b2, b3, b4⟩

set_option maxRecDepth 100000 in
theorem lifted (os : Os) (started : os.Started) (H : Type) (enc : TypeId × Value → H) :
    ReturnsInHanded {} Try.checked os 8 .any (Rows.fnExactGensOkSpec.pre6 enc Try.prog Try.f8 Rows.fnExactGensOkRow.domain false) (Rows.fnExactGensOkSpec.post enc Try.prog Try.f8 false true false false) := by
  refine returnsInHanded_of_change (C := Try.checked) own started (by kernel_rfl) Try.func8
    (ChangeSpec.witness6 (enc := enc) (C := Try.checked) false ⟨#[], #[.agg #[.slice none 0 0, .slice none 0 0, .int .i64 0], .slice none 0 0, .slice none 0 0], []⟩ 8 (by kernel_rfl) (by kernel_rfl) (by kernel_rfl) (by kernel_rfl)) ?_
  intro W base args ds gs before hval0 hW hcnd _
  have hval : ∀ (j : Nat) t v, Try.f8.params[j]? = some t → args[j]? = some v → Value.okWide Try.prog W .any base t v := hval0
  have hW' := hW
  obtain ⟨p, q, hA0, hV, rfl, hfz, hnd⟩ := hW
  have hA : DataW.TrodAll enc Try.prog W 0 (fun _ => true) true Try.f8.params.toList args.toList ds p := hA0
  rw [Try.params8] at hA hval
  obtain ⟨v0, vs0, d0, ds0, p0, q0, hargs, rfl, rfl, h0, r0⟩ := trodAll_cons hA
  obtain ⟨v1, vs1, d1, ds1, p1, q1, rfl, rfl, rfl, h1, r1⟩ := trodAll_cons r0
  obtain ⟨v2, vs2, d2, ds2, p2, q2, rfl, rfl, rfl, h2, r2⟩ := trodAll_cons r1
  obtain ⟨rfl, rfl, rfl⟩ := trodAll_nil r2
  obtain rfl : args = #[v0, v1, v2] := by cases args; simp_all
  obtain ⟨rfl, rfl⟩ := trodVars_none hV
  obtain ⟨cs, rfl, hsz0⟩ := okWide_struct Try.underlying54 (hval 0 54 v0 rfl rfl)
  obtain ⟨av, len, acap, rfl⟩ := okWide_slice Try.underlying27 (hval 1 27 v1 rfl rfl)
  obtain ⟨rv, rN, rcap, rfl⟩ := okWide_slice Try.underlying24 (hval 2 24 v2 rfl rfl)
  have k2 := h2
  have lt2 : ∀ x ∈ p2, x.block < W.heap.size := by obtain ⟨m, hm⟩ := k2; exact DataW.trod_lt m _ _ _ hm
  have k0 := h0
  have k1 := h1
  have lt0 : ∀ x ∈ p0, x.block < W.heap.size := by obtain ⟨m, hm⟩ := k0; exact DataW.trod_lt m _ _ _ hm
  have lt1 : ∀ x ∈ p1, x.block < W.heap.size := by obtain ⟨m, hm⟩ := k1; exact DataW.trod_lt m _ _ _ hm
  obtain ⟨ao, N, cap, f, yo, M, ycap, fy, mk, rfl, hr, hle, hm, hfb, hry, hley, hmy, hfby⟩ : ∃ (ao : Option Addr) (N cap : Nat) (f : Nat → Int) (yo : Option Addr) (M ycap : Nat) (fy : Nat → Int) (mk : Int), cs = #[.slice ao N cap, .slice yo M ycap, .int .i64 mk] ∧ RdI W ao N f ∧ N ≤ cap ∧ cap ≤ maxLen ∧ (∀ j, f j ≤ 9223372036854775807) ∧ RdI W yo M fy ∧ M ≤ ycap ∧ ycap ≤ maxLen ∧ (∀ j, fy j ≤ 9223372036854775807) := by
    obtain ⟨fuel, hf⟩ := h0
    obtain ⟨ao, N, cap, f, yo, M, ycap, fy, mk, e, hh⟩ := gens_open fuel _ _ hf
    refine ⟨ao, N, cap, f, yo, M, ycap, fy, mk, ?_, hh⟩
    obtain ⟨l⟩ := cs
    simpa [Value.cells] using e
  obtain ⟨g, hg, hgl, hgm, hgb⟩ : ∃ g : Nat → Int, RdI W rv rN g ∧ rN ≤ rcap ∧ rcap ≤ maxLen ∧ ∀ j, g j ≤ 9223372036854775807 := by
    obtain ⟨fuel, hf⟩ := h2
    have hf' : DataW.trod enc Try.prog W 0 (fun _ => true) true fuel 24 [.slice rv rN rcap] = some _ := hf
    obtain ⟨ao', N', cap', f', e, h1, h2, h3, h4⟩ := ints_open fuel _ _ hf'
    cases e
    exact ⟨f', h1, h2, h3, h4⟩
  obtain ⟨L, hL, hrT, hsz, hmL⟩ : ∃ L : List ByteArray, len = L.length ∧ RdT W av L ∧ (∀ x ∈ L, x.size ≤ maxLen) ∧ L.length ≤ maxLen := by
    obtain ⟨fuel, hf⟩ := h1
    rcases open_strings Try.underlying27 Try.underlying9 (by kernel_rfl) hf with ⟨hcs, hx⟩ | ⟨a, len2, cap2, ss, hcs, _, hl, hmm, hz, hx, hcell, hs⟩
    · have e : (Value.slice av len acap) = .slice none 0 0 := by simpa [Value.cells] using hcs
      cases e
      exact ⟨[], rfl, fun h => absurd rfl h, fun x hx => by simp at hx, Nat.zero_le _⟩
    · have e : (Value.slice av len acap) = .slice (some a) len2 cap2 := by simpa [Value.cells] using hcs
      cases e
      have hzl : len ≤ ss.length := by rw [hz]; split <;> omega
      have hln : (ss.take len).length = len := by simp; omega
      refine ⟨ss.take len, hln.symm, fun hn => ?_, fun x hx => hs x (List.mem_of_mem_take hx), by rw [hln]; exact Nat.le_trans hl hmm⟩
      obtain ⟨b, off, spot⟩ := a
      have q0 := hcell 0 (by omega)
      have hsp : spot = none := by simpa [Addr.add] using World.cell?_spot q0
      subst hsp
      refine ⟨b, off, rfl, fun j hj => ?_⟩
      have hj2 : j < ss.length := by omega
      have := hcell j hj2
      rw [Addr.add_lit, List.getD_eq_getElem?_getD, List.getElem?_eq_getElem hj2] at this
      rw [List.getElem_take]
      exact this
  subst hL
  clear hA0 hval0
  refine (gensOk_law ao N cap f yo M ycap fy mk av acap L rv rN rcap g W ⟨hr, hry⟩ (Nat.le_trans hle hm) (Nat.le_trans hley hmy) hfb hfby hrT hmL hsz hg hgb (Nat.le_trans hgl hgm)).mono fun e W' ⟨he, bel⟩ => ?_
  subst he
  exact ⟨_, rfl, _, _, _, [], _, [], hW', trodAll_mk1 (shut_bool Try.underlying4 _), (trodAll_cons_mk (Below.trod laidOut (by kernel_rfl) (of_decide_eq_true (by kernel_rfl)) k0 bel lt0) (trodAll_cons_mk (Below.trod laidOut (by kernel_rfl) (of_decide_eq_true (by kernel_rfl)) k1 bel lt1) (trodAll_cons_mk (Below.trod laidOut (by kernel_rfl) (of_decide_eq_true (by kernel_rfl)) k2 bel lt2) trodAll_mk0))), rfl, bel.frame _, fun h => by cases h⟩

theorem over : Rows.fnExactGensOkRow.holds Try.pinned (OpenSpec.ofChange Rows.fnExactGensOkSpec) :=
  OpenClaim.holds_of_wide 8 Try.f8 rfl rfl rfl rfl rfl rfl rfl ⟨rfl, rfl, rfl, rfl, rfl⟩ rfl rfl rfl rfl rfl (by kernel_rfl) Try.func8 (by kernel_rfl)
    (of_decide_eq_true (by kernel_rfl)) (by unfold Func.isWrapper; first | (rw [if_pos (by decide +kernel)]; kernel_rfl) | (rw [if_neg (by decide +kernel)]; exact ⟨rfl, rfl⟩))
    (fun os started H enc _ => lifted os started H enc)
end Go.Proofs.Ythdoamdjhpkimaa.fnExactGensOk
namespace Go.Proofs.Ythdoamdjhpkimaa
theorem fnExactGensOk_holds : Rows.FnExactGensOkSaid := fnExactGensOk.over
#print axioms fnExactGensOk_holds
end Go.Proofs.Ythdoamdjhpkimaa
