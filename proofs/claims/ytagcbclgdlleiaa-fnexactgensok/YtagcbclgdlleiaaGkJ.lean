/-
  agesOk: no thing that was met leads to a younger one.
  The program's GensOk.
  The program's GensOk: four questions, one behind the other.
-/
import Derived.Test.YtagcbclgdlleiaaGkG
import Derived.Test.YtagcbclgdlleiaaInn
import Derived.Test.YtagcbclgdlleiaaSpH
import Derived.Test.YtagcbclgdlleiaaXgS
import Derived.Deep.RegionLaw
import Derived.Deep.RegionHeld3
namespace Go.Proofs.Ytagcbclgdlleiaa.Gn
open Go.RowKit Go.Maps
set_option linter.unusedVariables false

/-- The list of things, as it is read. -/
def Lsv (G : GE) (w : World) (ths : List Th) (a : Option Addr) : Prop := ths.length ≠ 0 → ∃ g, a = some ⟨g, 0, none⟩ ∧ ∀ j (h : j < ths.length), w.cell? ⟨g, j * 2, none⟩ = some (.int .i64 ths[j].x) ∧ w.cell? ⟨g, j * 2 + 1, none⟩ = some (.slice (some ⟨G.sb ths[j].p, G.so ths[j].p, none⟩) ths[j].K ths[j].c)
def AgP (G : GE) (w : World) (ths : List Th) (e : Ending) (w' : World) : Prop := ∃ r : Bool, e = .returned (.bool r) ∧ (r = true ↔ ∀ t ∈ ths, Eok G.H G.mark t.x) ∧ Below w.heap.size w w'
theorem take_snoc {α : Type} {l : List α} {j : Nat} (h : j < l.length) : l.take (j + 1) = l.take j ++ [l[j]] := by rw [List.take_add_one, List.getElem?_eq_getElem h]; rfl
theorem all_snoc {α : Type} {P : α → Prop} {l : List α} {x : α} (h : ∀ y ∈ l, P y) (hx : P x) : ∀ y ∈ l ++ [x], P y := fun y hy => by
  rcases List.mem_append.1 hy with hy | hy
  · exact h y hy
  · have e : y = x := by simpa using hy
    rw [e]; exact hx
theorem prts_big {G : GE} {w : World} (hs : GSrc G w) {y : Int} {p K f0 : Nat} (k : Kin G y p K f0) {z : Int} (hz : z ∈ prts G.H y) : z ≤ 9223372036854775807 := by
  by_cases h6 : tagW y = 6
  · rw [k.prb h6] at hz; exact absurd hz (by simp)
  · rw [k.prt h6] at hz
    obtain ⟨j, _, rfl⟩ := List.mem_map.1 hz
    unfold GE.w
    split
    · exact hs.big _
    · exact hs.bigy _
set_option maxHeartbeats 8000000 in
set_option maxRecDepth 100000 in
theorem ages_any {G : GE} {w : World} (hs : GSrc G w) (ths : List Th) (hok : ∀ t ∈ ths, Th.ok G t) (hfew : ths.length ≤ 1600008) (a : Option Addr) (c : Nat) (hl : Lsv G w ths a) :
    Calls Try.prog 23 #[G.v, .slice a ths.length c] w (AgP G w ths) := by
  have HS : Hid (GSrc G w) := hs
  have HOK : Hid (∀ t ∈ ths, Th.ok G t) := hok
  have HL : Hid (Lsv G w ths a) := hl
  obtain ⟨n, hn⟩ : ∃ n, ths.length = n := ⟨_, rfl⟩
  rw [hn] at hfew ⊢
  have HN : Hid (ths.length = n) := hn
  have HB0 : Hid (Below w.heap.size w (w.alloc (.cells #[.slice G.wv G.N G.cap, .slice G.yv G.M G.ycap, .int .i64 G.mark] 29))) := (Below.refl _ _).alloc (Nat.le_refl _) _
  have g0 : ∀ o, (w.alloc (.cells #[.slice G.wv G.N G.cap, .slice G.yv G.M G.ycap, .int .i64 G.mark] 29)).cell? ⟨w.heap.size, o, none⟩ = (#[.slice G.wv G.N G.cap, .slice G.yv G.M G.ycap, .int .i64 G.mark] : Array Value)[o]? := fun o => World.cell?_alloc_new w _ _ o
  clear hs hok hl hn
  go_enter Try.func23, Try.ntmps23
  go_wp2_with fail
  generalize (w.alloc (.cells #[.slice G.wv G.N G.cap, .slice G.yv G.M G.ycap, .int .i64 G.mark] 29)) = W at HB0 g0 ⊢
  generalize hX : w.heap.size = X at g0 ⊢
  have HX : Hid (w.heap.size = X) := hX
  clear hX
  go_loopw [11] (fun i wr => ∃ j : Nat, i = .int .i64 j ∧ j ≤ n ∧ (∀ t ∈ ths.take j, Eok G.H G.mark t.x) ∧ Below W.heap.size W wr) (fun i _ => n - (intOf i).toNat)
  case atStart => exact ⟨0, rfl, Nat.zero_le _, by simp, Below.refl _ _⟩
  case round =>
    obtain ⟨j, rfl, hj, hall, hbe⟩ := hrel
    have hg : ∀ o, wr.cell? ⟨X, o, none⟩ = (#[.slice G.wv G.N G.cap, .slice G.yv G.M G.ycap, .int .i64 G.mark] : Array Value)[o]? := fun o => by
      have h0 : W.cell? ⟨X, 0, none⟩ = some (.slice G.wv G.N G.cap) := g0 0
      have hlt : X < W.heap.size := World.block_lt_of_cell? W _ h0
      rw [hbe.cell (p := ⟨X, o, none⟩) hlt]; exact g0 o
    have HBE : Hid (Below w.heap.size w wr) := HB0.out.trans (hbe.mono HB0.out.size)
    have HBW : Hid (Below W.heap.size W wr) := hbe
    have HALL : Hid (∀ t ∈ ths.take j, Eok G.H G.mark t.x) := hall
    clear hbe hall
    by_cases hlt : j < n
    case neg =>
      have hlti : ¬ (j : Int) < (n : Int) := by omega
      go_wp2_with fail
      go_ret
      refine ⟨true, rfl, ⟨fun _ => ?_, fun _ => rfl⟩, HBE.out⟩
      have h := HALL.out
      rw [List.take_of_length_le (by have := HN.out; omega)] at h
      exact h
    case pos =>
      have hlti : (j : Int) < (n : Int) := by omega
      have hjl : j < ths.length := by have := HN.out; omega
      obtain ⟨g, ha, hcells⟩ := HL.out (by omega)
      subst ha
      have hc0 := (hcells j hjl).1
      have hc1 := (hcells j hjl).2
      obtain ⟨t, ht⟩ : ∃ t, ths[j] = t := ⟨_, rfl⟩
      have HT : Hid (ths.take (j + 1) = ths.take j ++ [t]) := by show _ = _; rw [take_snoc hjl, ht]
      have hto : Th.ok G t := HOK.out t (by rw [← ht]; exact List.getElem_mem hjl)
      have HMEM : Hid (t ∈ ths) := by show _ ∈ _; rw [← ht]; exact List.getElem_mem hjl
      rw [ht] at hc0 hc1
      have hd0 := (HBE.out.cell (p := ⟨g, j * 2, none⟩) (World.block_lt_of_cell? _ _ hc0)).trans hc0
      have hd1 := (HBE.out.cell (p := ⟨g, j * 2 + 1, none⟩) (World.block_lt_of_cell? _ _ hc1)).trans hc1
      obtain ⟨x, p, K, f0, c2⟩ := t
      have HTO : Hid (Th.ok G ⟨x, p, K, f0, c2⟩) := hto
      clear hcells ht hc0 hc1 hto
      simp only at hd0 hd1
      go_wp2_with (go_at_call 39; refine (parts_any x _ _ K c2 HTO.out.big HTO.out.kin.k1 HTO.out.kin.k9 HTO.out.le _).mono ?_; rintro e w6 ⟨a6, c6, rfl, ha6, hb6⟩)
      have h2x := (Below.refl wr.heap.size wr).alloc (Nat.le_refl _) (.cells #[.int .i64 x, .slice (some ⟨G.sb p, G.so p, none⟩) K c2] 67)
      have hb7 : Below wr.heap.size wr w6 := h2x.trans (hb6.mono h2x.size)
      have bx : ∀ o, w6.cell? ⟨wr.heap.size, o, none⟩ = (#[.int .i64 x, .slice (some ⟨G.sb p, G.so p, none⟩) K c2] : Array Value)[o]? := fun o => by
        rw [hb6.cell (p := ⟨wr.heap.size, o, none⟩) (by show _ < _; simp)]
        exact World.cell?_alloc_new wr _ _ o
      have hg6 : ∀ o, w6.cell? ⟨X, o, none⟩ = (#[.slice G.wv G.N G.cap, .slice G.yv G.M G.ycap, .int .i64 G.mark] : Array Value)[o]? := fun o => by
        have h0 : wr.cell? ⟨X, 0, none⟩ = some (.slice G.wv G.N G.cap) := hg 0
        have hlt : X < wr.heap.size := World.block_lt_of_cell? wr _ h0
        rw [hb7.cell (p := ⟨X, o, none⟩) hlt]; exact hg o
      have HB6 : Hid (Below w.heap.size w w6 ∧ Below W.heap.size W w6) := ⟨HBE.out.trans (hb7.mono HBE.out.size), HBW.out.trans (hb7.mono HBW.out.size)⟩
      obtain ⟨hpl, hroots⟩ := parts_row HS.out HTO.out.kin ha6
      have HZB : Hid (∀ z ∈ prts G.H x, z ≤ 9223372036854775807) := fun z hz => prts_big HS.out HTO.out.kin hz
      have hL9 : npr x K ≤ 41 := by have h1 : K ≤ 41 := HTO.out.kin.k9; unfold npr; split <;> (try split) <;> omega
      generalize npr x K = L at hpl hL9 ⊢
      generalize wr.heap.size = Y at bx ⊢
      have HRT : Hid (Roots w a6 (prts G.H x)) := hroots
      have HPL : Hid ((prts G.H x).length = L) := hpl
      have HEO : Hid (Eok G.H G.mark x ↔ ∀ z ∈ prts G.H x, leadsW z = true → agW G.mark z ≤ agW G.mark x) := Iff.rfl
      clear hb6 hb7 h2x ha6 hg hd0 hd1 hpl hroots HBE HBW g0
      generalize prts G.H x = zs at HRT HPL HEO HZB
      go_loopw [18] (fun i wr => ∃ m : Nat, i = .int .i64 m ∧ m ≤ L ∧ (∀ z ∈ zs.take m, leadsW z = true → agW G.mark z ≤ agW G.mark x) ∧ Below w6.heap.size w6 wr) (fun i _ => L - (intOf i).toNat)
      case atStart => exact ⟨0, rfl, Nat.zero_le _, by simp, Below.refl _ _⟩
      case round =>
        obtain ⟨m, rfl, hm, hall, hbe⟩ := hrel
        have HALL2 : Hid (∀ z ∈ zs.take m, leadsW z = true → agW G.mark z ≤ agW G.mark x) := hall
        have HBE : Hid (Below w.heap.size w wr ∧ Below W.heap.size W wr ∧ Below w6.heap.size w6 wr) := ⟨HB6.out.1.trans (hbe.mono HB6.out.1.size), HB6.out.2.trans (hbe.mono HB6.out.2.size), hbe⟩
        have e0 : w6.cell? ⟨X, 0, none⟩ = some (.slice G.wv G.N G.cap) := hg6 0
        have e1 : w6.cell? ⟨X, 1, none⟩ = some (.slice G.yv G.M G.ycap) := hg6 1
        have e2 : w6.cell? ⟨X, 2, none⟩ = some (.int .i64 G.mark) := hg6 2
        have e3 : w6.cell? ⟨Y, 0, none⟩ = some (.int .i64 x) := bx 0
        have d0 := (hbe.cell (p := ⟨X, 0, none⟩) (World.block_lt_of_cell? _ _ e0)).trans e0
        have d1 := (hbe.cell (p := ⟨X, 1, none⟩) (World.block_lt_of_cell? _ _ e1)).trans e1
        have d2 := (hbe.cell (p := ⟨X, 2, none⟩) (World.block_lt_of_cell? _ _ e2)).trans e2
        have d3 := (hbe.cell (p := ⟨Y, 0, none⟩) (World.block_lt_of_cell? _ _ e3)).trans e3
        clear hall hbe e0 e1 e2 e3
        by_cases hmt : m < L
        case neg =>
          have hlti2 : ¬ (m : Int) < (L : Int) := by omega
          go_wp2_with fail
          go_roundw
          case rel =>
            refine ⟨j + 1, rfl, by omega, ?_, HBE.out.2.1⟩
            rw [HT.out]
            refine all_snoc HALL.out (HEO.out.2 ?_)
            have h := HALL2.out
            rw [List.take_of_length_le (by have := HPL.out; omega)] at h
            exact h
          case measure => simp [intOf]; omega
        case pos =>
          have hlti2 : (m : Int) < (L : Int) := by omega
          have hml : m < zs.length := by have := HPL.out; omega
          obtain ⟨rb, ro, ha6, hcz⟩ := HRT.out (by omega)
          subst ha6
          have hz0 := hcz m hml
          obtain ⟨z, hz⟩ : ∃ z, zs[m] = z := ⟨_, rfl⟩
          have HTZ : Hid (zs.take (m + 1) = zs.take m ++ [z] ∧ z ∈ zs) := ⟨by rw [take_snoc hml, hz], by rw [← hz]; exact List.getElem_mem hml⟩
          rw [hz] at hz0
          have hz1 := (HBE.out.1.cell (p := ⟨rb, ro + m, none⟩) (World.block_lt_of_cell? _ _ hz0)).trans hz0
          have HZ : Hid (z ≤ 9223372036854775807 ∧ x ≤ 9223372036854775807) := ⟨HZB.out z HTZ.out.2, HTO.out.big⟩
          clear hcz hz0 hz
          have k0 := Inn.keep d0
          have k1 := Inn.keep d1
          have k2 := Inn.keep d2
          have k3 := Inn.keep d3
          haveI := inn_ne wr
          have HAA : Hid (∀ u : Int, u = z ∨ u = x → ∀ y : Inn wr, Calls Try.prog 41 #[.agg #[.slice G.wv G.N G.cap, .slice G.yv G.M G.ycap, .int .i64 G.mark], .int .i64 u] y.val fun e w' => e = .returned (.int .i64 (agW G.mark u : Nat)) ∧ Below y.val.heap.size y.val w') := fun u hu y => implAge_any G u (by rcases hu with rfl | rfl; exact HZ.out.1; exact HZ.out.2) y.val
          cases hld : leadsW z with
          | false =>
            have HLE : Hid (∀ y : Inn wr, Calls Try.prog 40 #[.int .i64 z] y.val fun e w' => e = .returned (.bool false) ∧ w' = y.val) := fun y => by rw [← hld]; exact implLeads_any z HZ.out.1 y.val
            have HLD : Hid (leadsW z = false) := hld
            clear hld
            go_wp2_with fail
            refine wp_region_inn ?_ ?_ ?_
            · kernel_rfl
            · kernel_rfl
            repeat (go_big_quiet_step (first
              | (go_at_call 40; exact calls_inn_same (HLE.out _))))
            refine wpQuiet_nil ?_
            rintro w1 ⟨y1, h1⟩
            have hb1 : Below wr.heap.size wr w1 := by rw [h1]; exact y1.bel
            have HB1 : Hid (Below w6.heap.size w6 w1) := HBE.out.2.2.trans (hb1.mono HBE.out.2.2.size)
            clear h1 hb1 y1 k0 k1 k2 k3 HAA HLE d0 d1 d2 d3 hz1
            go_wp2_with fail
            go_roundw
            case rel =>
              refine ⟨m + 1, rfl, by omega, ?_, HB1.out⟩
              rw [HTZ.out.1]
              exact all_snoc HALL2.out (fun h => by rw [HLD.out] at h; cases h)
            case measure => simp [intOf]; omega
          | true =>
            have HLE : Hid (∀ y : Inn wr, Calls Try.prog 40 #[.int .i64 z] y.val fun e w' => e = .returned (.bool true) ∧ w' = y.val) := fun y => by rw [← hld]; exact implLeads_any z HZ.out.1 y.val
            have HLD : Hid (leadsW z = true) := hld
            clear hld
            go_wp2_with fail
            refine wp_region_inn ?_ ?_ ?_
            · kernel_rfl
            · kernel_rfl
            repeat (go_big_quiet_step (first
              | (go_at_call 40; exact calls_inn_same (HLE.out _))
              | (go_at_call 41; exact calls_inn (HAA.out _ (by first | exact Or.inl rfl | exact Or.inr rfl) _))))
            refine wpQuiet_nil ?_
            rintro w1 ⟨y1, h1⟩
            have hb1 : Below wr.heap.size wr w1 := by rw [h1]; exact y1.bel
            have HB1 : Hid (Below w6.heap.size w6 w1) := HBE.out.2.2.trans (hb1.mono HBE.out.2.2.size)
            have HB2 : Hid (Below w.heap.size w w1) := HBE.out.1.trans (hb1.mono HBE.out.1.size)
            clear h1 hb1 y1 k0 k1 k2 k3 HAA HLE d0 d1 d2 d3 hz1
            by_cases hag : agW G.mark z ≤ agW G.mark x
            · have HAG : Hid (agW G.mark z ≤ agW G.mark x) := hag
              have hag2 : ¬ (agW G.mark x : Int) < (agW G.mark z : Int) := by omega
              clear hag
              go_wp2_with fail
              go_roundw
              case rel =>
                refine ⟨m + 1, rfl, by omega, ?_, HB1.out⟩
                rw [HTZ.out.1]
                exact all_snoc HALL2.out (fun h => HAG.out)
              case measure => simp [intOf]; omega
            · have HAG : Hid (¬ agW G.mark z ≤ agW G.mark x) := hag
              have hag2 : (agW G.mark x : Int) < (agW G.mark z : Int) := by omega
              clear hag
              go_wp2_with fail
              go_ret
              exact ⟨false, rfl, ⟨fun h => (by cases h), fun h => absurd ((HEO.out.1 (h _ HMEM.out)) z HTZ.out.2 HLD.out) HAG.out⟩, HB2.out⟩
end Go.Proofs.Ytagcbclgdlleiaa.Gn

namespace Go.Proofs.Ytagcbclgdlleiaa.Gn
open Go.RowKit Go.Maps
set_option linter.unusedVariables false

theorem below3 (w : World) (o : Obj) : Below w.heap.size w (w.alloc o) := (Below.refl _ _).alloc (Nat.le_refl _) o
def lstB (G : GE) : Bool := decide (G.N ≤ 1000) && decide (G.M ≤ 1000)
def szB (G : GE) : Bool := lstB G && (decide (0 ≤ G.mark) && decide (G.mark ≤ (G.M : Int)))
set_option maxHeartbeats 1000000 in
set_option maxRecDepth 100000 in
theorem lists_any (G : GE) (w : World) (hN : G.N ≤ 1048576) (hM : G.M ≤ 1048576) : Calls Try.prog 33 #[G.v] w fun e w' => e = .returned (.bool (lstB G)) ∧ Below w.heap.size w w' := by
  have HB : Hid (∀ o, Below w.heap.size w (w.alloc o)) := below3 w
  by_cases h1 : G.N ≤ 1000
  · have hd : decide ((G.N : Int) ≤ 1000) = true := by simp; omega
    by_cases h2 : G.M ≤ 1000
    · have hd2 : decide ((G.M : Int) ≤ 1000) = true := by simp; omega
      have HE : Hid (lstB G = true) := by show _ = _; simp [lstB, h1, h2]
      clear h1 h2
      go_enter Try.func33, Try.ntmps33
      go_wp2_with fail
      go_ret
      exact ⟨ret_bool HE.out.symm, HB.out _⟩
    · have hd2 : decide ((G.M : Int) ≤ 1000) = false := by simp; omega
      have HE : Hid (lstB G = false) := by show _ = _; simp [lstB, h2]
      clear h1 h2
      go_enter Try.func33, Try.ntmps33
      go_wp2_with fail
      go_ret
      exact ⟨ret_bool HE.out.symm, HB.out _⟩
  · have hd : decide ((G.N : Int) ≤ 1000) = false := by simp; omega
    have HE : Hid (lstB G = false) := by show _ = _; simp [lstB, h1]
    clear h1
    go_enter Try.func33, Try.ntmps33
    go_wp2_with fail
    go_ret
    exact ⟨ret_bool HE.out.symm, HB.out _⟩
set_option maxHeartbeats 2000000 in
set_option maxRecDepth 100000 in
theorem sizes_any (G : GE) (w : World) (hN : G.N ≤ 1048576) (hM : G.M ≤ 1048576) : Calls Try.prog 19 #[G.v] w fun e w' => e = .returned (.bool (szB G)) ∧ Below w.heap.size w w' := by
  have q0 : ∀ o, (w.alloc (.cells #[.slice G.wv G.N G.cap, .slice G.yv G.M G.ycap, .int .i64 G.mark] 29)).cell? ⟨w.heap.size, o, none⟩ = (#[.slice G.wv G.N G.cap, .slice G.yv G.M G.ycap, .int .i64 G.mark] : Array Value)[o]? := fun o => World.cell?_alloc_new w _ _ o
  have HB : Hid (Below w.heap.size w (w.alloc (.cells #[.slice G.wv G.N G.cap, .slice G.yv G.M G.ycap, .int .i64 G.mark] 29))) := below3 w _
  have HL : Hid (∀ w1, Calls Try.prog 33 #[.agg #[.slice G.wv G.N G.cap, .slice G.yv G.M G.ycap, .int .i64 G.mark]] w1 fun e w' => e = .returned (.bool (lstB G)) ∧ Below w1.heap.size w1 w') := fun w1 => lists_any G w1 hN hM
  cases hl : lstB G with
  | false =>
    have HLB : Hid (lstB G = false) := hl
    have HE : Hid (szB G = false) := by show _ = _; simp [szB, hl]
    clear hl
    go_enter Try.func19, Try.ntmps19
    go_wp2_with (go_at_call 33; refine (HL.out _).mono ?_; rintro e w2 ⟨rfl, hb2⟩; rw [HLB.out]; have HB2 : Hid (Below w.heap.size w w2) := HB.out.trans (hb2.mono HB.out.size); clear hb2)
    go_ret
    exact ⟨ret_bool HE.out.symm, HB2.out⟩
  | true =>
    have HLB : Hid (lstB G = true) := hl
    have HE : Hid (szB G = (decide (0 ≤ G.mark) && decide (G.mark ≤ (G.M : Int)))) := by show _ = _; simp [szB, hl]
    clear hl
    by_cases h1 : 0 ≤ G.mark
    · by_cases h2 : G.mark ≤ (G.M : Int)
      · have HE2 : Hid (szB G = true) := by show _ = _; rw [HE.out]; simp [h1, h2]
        go_enter Try.func19, Try.ntmps19
        go_wp2_with (go_at_call 33; refine (HL.out _).mono ?_; rintro e w2 ⟨rfl, hb2⟩; rw [HLB.out]; have q2 := keep3 hb2 q0; have HB2 : Hid (Below w.heap.size w w2) := HB.out.trans (hb2.mono HB.out.size); clear hb2)
        go_ret
        exact ⟨ret_bool HE2.out.symm, HB2.out⟩
      · have HE2 : Hid (decide (G.mark ≤ (G.M : Int)) = szB G) := by show _ = _; rw [HE.out]; simp [h1]
        go_enter Try.func19, Try.ntmps19
        go_wp2_with (go_at_call 33; refine (HL.out _).mono ?_; rintro e w2 ⟨rfl, hb2⟩; rw [HLB.out]; have q2 := keep3 hb2 q0; have HB2 : Hid (Below w.heap.size w w2) := HB.out.trans (hb2.mono HB.out.size); clear hb2)
        go_ret
        exact ⟨ret_bool HE2.out, HB2.out⟩
    · have HE2 : Hid (szB G = false) := by show _ = _; rw [HE.out]; simp [h1]
      go_enter Try.func19, Try.ntmps19
      go_wp2_with (go_at_call 33; refine (HL.out _).mono ?_; rintro e w2 ⟨rfl, hb2⟩; rw [HLB.out]; have q2 := keep3 hb2 q0; have HB2 : Hid (Below w.heap.size w w2) := HB.out.trans (hb2.mono HB.out.size); clear hb2)
      go_ret
      exact ⟨ret_bool HE2.out.symm, HB2.out⟩
/-- What is asked of two generations. -/
def gensP (G : GE) (R : List Int) : Prop := szB G = true ∧ atomsB G.A = true ∧ allB G.H R = true ∧ ∀ x ∈ R, ∀ y, Rch G.H x y → leadsW y = true → Eok G.H G.mark y
def GoP (G : GE) (R : List Int) (w : World) (e : Ending) (w' : World) : Prop := ∃ r : Bool, e = .returned (.bool r) ∧ (r = true ↔ gensP G R) ∧ Below w.heap.size w w'
theorem gensP_sz {G : GE} {R : List Int} (h : szB G = false) : ¬ gensP G R := fun k => by have := k.1; rw [h] at this; cases this
theorem gensP_at {G : GE} {R : List Int} (h : atomsB G.A = false) : ¬ gensP G R := fun k => by have := k.2.1; rw [h] at this; cases this
theorem gensP_all {G : GE} {R : List Int} (h : allB G.H R = false) : ¬ gensP G R := fun k => by have := k.2.2.1; rw [h] at this; cases this
theorem sz_lt {G : GE} (h : szB G = true) : G.N ≤ 1000 ∧ G.M ≤ 1000 ∧ 0 ≤ G.mark ∧ G.mark ≤ (G.M : Int) := by
  simp only [szB, lstB, Bool.and_eq_true, decide_eq_true_eq] at h
  exact ⟨h.1.1, h.1.2, h.2.1, h.2.2⟩
/-- What reads has an end. -/
theorem all_fin {G : GE} {R : List Int} (h : allB G.H R = true) : ∀ x ∈ R, FinW G.H 612 x := fun x hx => by
  unfold allB at h
  rw [List.all_eq_true] at h
  have h1 := h x hx
  unfold readT at h1
  cases h2 : rT true G.H 6 x 100 with
  | none => rw [h2] at h1; cases h1
  | some p => exact fin_read 6 x 100 p.1 p.2 (Nat.le_refl _) h2
theorem gensP_iff {G : GE} {R : List Int} {ths : List Th} {r : Bool} (h1 : szB G = true) (h2 : atomsB G.A = true) (h3 : allB G.H R = true) (hm : Met G.H R (ths.map Th.x)) (h : r = true ↔ ∀ t ∈ ths, Eok G.H G.mark t.x) : r = true ↔ gensP G R := by
  have e : (∀ t ∈ ths, Eok G.H G.mark t.x) ↔ ∀ y ∈ ths.map Th.x, Eok G.H G.mark y := by simp
  rw [h, e, hm.iff]
  exact ⟨fun k => ⟨h1, h2, h3, k⟩, fun k => k.2.2.2⟩
theorem thCells_at (G : GE) : ∀ (l : List Th) (j : Nat) (h : j < l.length), (thCells G l)[j * 2]? = some (.int .i64 l[j].x) ∧ (thCells G l)[j * 2 + 1]? = some (.slice (some ⟨G.sb l[j].p, G.so l[j].p, none⟩) l[j].K l[j].c)
  | [], j, h => absurd h (Nat.not_lt_zero _)
  | t :: r, 0, h => ⟨rfl, rfl⟩
  | t :: r, j + 1, h => by
    have := thCells_at G r j (by simpa using h)
    have e : thCells G (t :: r) = .int .i64 t.x :: .slice (some ⟨G.sb t.p, G.so t.p, none⟩) t.K t.c :: thCells G r := rfl
    rw [e, show (j + 1) * 2 = j * 2 + 1 + 1 by omega]
    exact this
theorem lsv_of {G : GE} {w : World} {base : Nat} {ths : List Th} {lv : Value} (h : w.ownsRow base 67 2 lv ths.length (thCells G ths)) : ∃ a c, lv = .slice a ths.length c ∧ Lsv G w ths a := by
  rcases h.2 with ⟨h0, h1⟩ | ⟨g, cap, cur, hv, hb, hh, h1, h2, h3, h4⟩
  · exact ⟨none, 0, by rw [h0, h1], fun hn => absurd h1 hn⟩
  · refine ⟨_, cap, hv, fun _ => ⟨g, rfl, fun j hj => ?_⟩⟩
    obtain ⟨e1, e2⟩ := thCells_at G ths j hj
    have hc : ∀ k v, k < ths.length * 2 → (thCells G ths)[k]? = some v → w.cell? ⟨g, k, none⟩ = some v := fun k v hk he => by
      rw [← h4, List.getElem?_take, if_pos hk, Array.getElem?_toList] at he
      rw [cell_of_row w g k cur _ _ hh]; exact he
    exact ⟨hc _ _ (by omega) e1, hc _ _ (by omega) e2⟩
end Go.Proofs.Ytagcbclgdlleiaa.Gn

namespace Go.Proofs.Ytagcbclgdlleiaa.Gn
open Go.RowKit Go.Maps
set_option linter.unusedVariables false

set_option maxHeartbeats 8000000 in
set_option maxRecDepth 100000 in
theorem implGensOk_any {G : GE} {w : World} (hs : GSrc G w) (R : List Int) (rv : Option Addr) (rcap : Nat) (hr : Roots w rv R) (hR : R.length ≤ 1048576) (hb : ∀ x ∈ R, x ≤ 9223372036854775807) :
    Calls Try.prog 10 #[.agg #[.slice G.wv G.N G.cap, .slice G.yv G.M G.ycap, .int .i64 G.mark], .slice G.av G.A.length G.acap, .slice rv R.length rcap] w (GoP G R w) := by
  have HS : Hid (GSrc G w) := hs
  have q0 : ∀ o, (w.alloc (.cells #[.slice G.wv G.N G.cap, .slice G.yv G.M G.ycap, .int .i64 G.mark] 29)).cell? ⟨w.heap.size, o, none⟩ = (#[.slice G.wv G.N G.cap, .slice G.yv G.M G.ycap, .int .i64 G.mark] : Array Value)[o]? := fun o => World.cell?_alloc_new w _ _ o
  have HB : Hid (Below w.heap.size w (w.alloc (.cells #[.slice G.wv G.N G.cap, .slice G.yv G.M G.ycap, .int .i64 G.mark] 29))) := below3 w _
  have HSI : Hid (∀ w1, Calls Try.prog 19 #[.agg #[.slice G.wv G.N G.cap, .slice G.yv G.M G.ycap, .int .i64 G.mark]] w1 fun e w' => e = .returned (.bool (szB G)) ∧ Below w1.heap.size w1 w') := fun w1 => sizes_any G w1 hs.n hs.m
  have HAT : Hid (∀ w', Below w.heap.size w w' → Calls Try.prog 20 #[.slice G.av G.A.length G.acap] w' fun e w'' => e = .returned (.bool (atomsB G.A)) ∧ Below w'.heap.size w' w'') := fun w' hb' => by
    have s := hs.below hb'
    exact implAtoms_any G.ab G.ao G.acap G.av G.A w' s.al s.ats s.a s.txt
  have HAR : Hid (∀ w', Below w.heap.size w w' → Calls Try.prog 21 #[.func (.func 37) #[] #[.pointer (some ⟨w'.heap.size, 0, none⟩)], .slice G.av G.A.length G.acap, .slice rv R.length rcap] (w'.alloc (.cells #[.slice G.wv G.N G.cap, .slice G.yv G.M G.ycap, .int .i64 G.mark] 29)) fun e w'' => e = .returned (.bool (allB G.H R)) ∧ Below (w'.alloc (.cells #[.slice G.wv G.N G.cap, .slice G.yv G.M G.ycap, .int .i64 G.mark] 29)).heap.size (w'.alloc (.cells #[.slice G.wv G.N G.cap, .slice G.yv G.M G.ycap, .int .i64 G.mark] 29)) w'') := fun w' hb' => by
    have hb2 : Below w.heap.size w (w'.alloc (.cells #[.slice G.wv G.N G.cap, .slice G.yv G.M G.ycap, .int .i64 G.mark] 29)) := hb'.alloc hb'.size _
    exact allRead_any (ofGens G (w'.alloc (.cells #[.slice G.wv G.N G.cap, .slice G.yv G.M G.ycap, .int .i64 G.mark] 29)) w'.heap.size) _ rfl (ofGens_src (hs.below hb2) (World.cell?_alloc_new w' _ _ 0) (World.cell?_alloc_new w' _ _ 1)) rv rcap R (hr.below hb2) hR hb
  cases hz : szB G with
  | false =>
    have HSZ : Hid (szB G = false) := hz
    clear hz hs hr hR hb
    go_enter Try.func10, Try.ntmps10
    go_wp2_with fail
    generalize w.alloc (.cells #[.slice G.wv G.N G.cap, .slice G.yv G.M G.ycap, .int .i64 G.mark] 29) = W at HB q0 ⊢
    generalize w.heap.size = X at q0 ⊢
    have p0 : W.cell? ⟨X, 0, none⟩ = some (.slice G.wv G.N G.cap) := q0 0
    have p1 : W.cell? ⟨X, 1, none⟩ = some (.slice G.yv G.M G.ycap) := q0 1
    have p2 : W.cell? ⟨X, 2, none⟩ = some (.int .i64 G.mark) := q0 2
    have k0 := Inn.keep p0
    have k1 := Inn.keep p1
    have k2 := Inn.keep p2
    haveI := inn_ne W
    have HS1 : Hid (∀ y : Inn W, Calls Try.prog 19 #[.agg #[.slice G.wv G.N G.cap, .slice G.yv G.M G.ycap, .int .i64 G.mark]] y.val fun e w' => e = .returned (.bool false) ∧ Below y.val.heap.size y.val w') := fun y => by have := HSI.out y.val; rw [HSZ.out] at this; exact this
    clear q0
    refine wp_region_inn ?_ ?_ ?_
    · kernel_rfl
    · kernel_rfl
    repeat (go_big_quiet_step (first
      | (go_at_call 19; exact calls_inn (HS1.out _))))
    refine wpQuiet_nil ?_
    rintro w1 ⟨y1, h1⟩
    have hb1 : Below W.heap.size W w1 := by rw [h1]; exact y1.bel
    have HB1 : Hid (Below w.heap.size w w1) := HB.out.trans (hb1.mono HB.out.size)
    clear h1 hb1 y1 k0 k1 k2 p0 p1 p2 HS1
    go_wp2_with fail
    go_ret
    exact ⟨false, rfl, ⟨fun h => (by cases h), fun h => absurd h (gensP_sz HSZ.out)⟩, HB1.out⟩
  | true =>
    have HSZ : Hid (szB G = true) := hz
    cases ha : atomsB G.A with
    | false =>
      have HA : Hid (atomsB G.A = false) := ha
      clear hz ha hs hr hR hb
      go_enter Try.func10, Try.ntmps10
      go_wp2_with fail
      generalize w.alloc (.cells #[.slice G.wv G.N G.cap, .slice G.yv G.M G.ycap, .int .i64 G.mark] 29) = W at HB q0 ⊢
      generalize w.heap.size = X at q0 ⊢
      have p0 : W.cell? ⟨X, 0, none⟩ = some (.slice G.wv G.N G.cap) := q0 0
      have p1 : W.cell? ⟨X, 1, none⟩ = some (.slice G.yv G.M G.ycap) := q0 1
      have p2 : W.cell? ⟨X, 2, none⟩ = some (.int .i64 G.mark) := q0 2
      have k0 := Inn.keep p0
      have k1 := Inn.keep p1
      have k2 := Inn.keep p2
      haveI := inn_ne W
      have HS1 : Hid (∀ y : Inn W, Calls Try.prog 19 #[.agg #[.slice G.wv G.N G.cap, .slice G.yv G.M G.ycap, .int .i64 G.mark]] y.val fun e w' => e = .returned (.bool true) ∧ Below y.val.heap.size y.val w') := fun y => by have := HSI.out y.val; rw [HSZ.out] at this; exact this
      have HA1 : Hid (∀ y : Inn W, Calls Try.prog 20 #[.slice G.av G.A.length G.acap] y.val fun e w' => e = .returned (.bool false) ∧ Below y.val.heap.size y.val w') := fun y => by have := HAT.out y.val (HB.out.trans (y.bel.mono HB.out.size)); rw [HA.out] at this; exact this
      clear q0
      refine wp_region_inn ?_ ?_ ?_
      · kernel_rfl
      · kernel_rfl
      repeat (go_big_quiet_step (first
        | (go_at_call 19; exact calls_inn (HS1.out _))
        | (go_at_call 20; exact calls_inn (HA1.out _))))
      refine wpQuiet_nil ?_
      rintro w1 ⟨y1, h1⟩
      have hb1 : Below W.heap.size W w1 := by rw [h1]; exact y1.bel
      have HB1 : Hid (Below w.heap.size w w1) := HB.out.trans (hb1.mono HB.out.size)
      clear h1 hb1 y1 k0 k1 k2 p0 p1 p2 HS1 HA1
      go_wp2_with fail
      go_ret
      exact ⟨false, rfl, ⟨fun h => (by cases h), fun h => absurd h (gensP_at HA.out)⟩, HB1.out⟩
    | true =>
      have HA : Hid (atomsB G.A = true) := ha
      cases hal : allB G.H R with
      | false =>
        have HAL : Hid (allB G.H R = false) := hal
        clear hz ha hal hs hr hR hb
        go_enter Try.func10, Try.ntmps10
        go_wp2_with fail
        generalize w.alloc (.cells #[.slice G.wv G.N G.cap, .slice G.yv G.M G.ycap, .int .i64 G.mark] 29) = W at HB q0 ⊢
        generalize w.heap.size = X at q0 ⊢
        have p0 : W.cell? ⟨X, 0, none⟩ = some (.slice G.wv G.N G.cap) := q0 0
        have p1 : W.cell? ⟨X, 1, none⟩ = some (.slice G.yv G.M G.ycap) := q0 1
        have p2 : W.cell? ⟨X, 2, none⟩ = some (.int .i64 G.mark) := q0 2
        have pd0 : W.drew.cell? ⟨X, 0, none⟩ = some (.slice G.wv G.N G.cap) := p0
        have pd1 : W.drew.cell? ⟨X, 1, none⟩ = some (.slice G.yv G.M G.ycap) := p1
        have pd2 : W.drew.cell? ⟨X, 2, none⟩ = some (.int .i64 G.mark) := p2
        have HBD : Hid (Below w.heap.size w W.drew) := HB.out.drew
        clear q0
        first
        | go_region_law (go_simp; go_wp2_with (first
            | (go_at_call 19; refine (HSI.out _).mono ?_; rintro e w2 ⟨rfl, hb2⟩; rw [HSZ.out]; have HB2 : Hid (Below w.heap.size w w2) := HBD.out.trans (hb2.mono HBD.out.size); have q20 := keep0 hb2 pd0; have q21 := keep0 hb2 pd1; have q22 := keep0 hb2 pd2; clear hb2)
            | (go_at_call 20; refine (HAT.out _ HB2.out).mono ?_; rintro e w3 ⟨rfl, hb3⟩; rw [HA.out]; have q30 := keep0 hb3 q20; have q31 := keep0 hb3 q21; have q32 := keep0 hb3 q22; have HB3 : Hid (Below w.heap.size w w3) := HB2.out.trans (hb3.mono HB2.out.size); clear hb3)
            | (go_at_call 22; refine (gensFrom_any _ _ _ _ _ _ _ _).mono ?_; rintro e w4 ⟨rfl, hw4⟩; obtain rfl := hw4.symm; have q40 := keep0 (below3 w3 (.cells #[.slice G.wv G.N G.cap, .slice G.yv G.M G.ycap, .int .i64 G.mark] 29)) q30; have q41 := keep0 (below3 w3 (.cells #[.slice G.wv G.N G.cap, .slice G.yv G.M G.ycap, .int .i64 G.mark] 29)) q31; have q42 := keep0 (below3 w3 (.cells #[.slice G.wv G.N G.cap, .slice G.yv G.M G.ycap, .int .i64 G.mark] 29)) q32)
            | (go_at_call 21; refine (HAR.out _ HB3.out).mono ?_; rintro e w5 ⟨rfl, hb5⟩; rw [HAL.out]; have q50 := keep0 hb5 q40; have q51 := keep0 hb5 q41; have q52 := keep0 hb5 q42; have HB5 : Hid (Below w.heap.size w w5) := (HB3.out.alloc HB3.out.size _).trans (hb5.mono (HB3.out.alloc HB3.out.size _).size); clear hb5)))
        | fail
        all_goals (
          go_wp2_with fail
          go_ret
          exact ⟨false, rfl, ⟨fun h => (by cases h), fun h => absurd h (gensP_all HAL.out)⟩, HB5.out⟩)
      | true =>
        have HAL : Hid (allB G.H R = true) := hal
        have HTH : Hid (∀ w', Below w.heap.size w w' → Calls Try.prog 24 #[.agg #[.slice G.wv G.N G.cap, .slice G.yv G.M G.ycap, .int .i64 G.mark], .slice rv R.length rcap] w' (ThsP G w' R)) := fun w' hb' => things_any (hs.below hb') (sz_lt hz).1 (sz_lt hz).2.1 R rv rcap 612 (hr.below hb') hR (all_fin hal) hb
        clear hz ha hal hs hr hR hb
        go_enter Try.func10, Try.ntmps10
        go_wp2_with fail
        generalize w.alloc (.cells #[.slice G.wv G.N G.cap, .slice G.yv G.M G.ycap, .int .i64 G.mark] 29) = W at HB q0 ⊢
        generalize w.heap.size = X at q0 ⊢
        have p0 : W.cell? ⟨X, 0, none⟩ = some (.slice G.wv G.N G.cap) := q0 0
        have p1 : W.cell? ⟨X, 1, none⟩ = some (.slice G.yv G.M G.ycap) := q0 1
        have p2 : W.cell? ⟨X, 2, none⟩ = some (.int .i64 G.mark) := q0 2
        have pd0 : W.drew.cell? ⟨X, 0, none⟩ = some (.slice G.wv G.N G.cap) := p0
        have pd1 : W.drew.cell? ⟨X, 1, none⟩ = some (.slice G.yv G.M G.ycap) := p1
        have pd2 : W.drew.cell? ⟨X, 2, none⟩ = some (.int .i64 G.mark) := p2
        have HBD : Hid (Below w.heap.size w W.drew) := HB.out.drew
        clear q0
        first
        | go_region_held3 (fun w' => w'.cell? ⟨X, 0, none⟩ = some (.slice G.wv G.N G.cap) ∧ w'.cell? ⟨X, 1, none⟩ = some (.slice G.yv G.M G.ycap) ∧ w'.cell? ⟨X, 2, none⟩ = some (.int .i64 G.mark)) (first | (refine ⟨?_, ?_, ?_⟩ <;> assumption) | go_keep)
          (first
            | (go_at_call 19; refine (HSI.out _).mono ?_; rintro e w2 ⟨rfl, hb2⟩; rw [HSZ.out]; have HB2 : Hid (Below w.heap.size w w2) := HBD.out.trans (hb2.mono HBD.out.size); have q20 := keep0 hb2 pd0; have q21 := keep0 hb2 pd1; have q22 := keep0 hb2 pd2; clear hb2)
            | (go_at_call 20; refine (HAT.out _ HB2.out).mono ?_; rintro e w3 ⟨rfl, hb3⟩; rw [HA.out]; have q30 := keep0 hb3 q20; have q31 := keep0 hb3 q21; have q32 := keep0 hb3 q22; have HB3 : Hid (Below w.heap.size w w3) := HB2.out.trans (hb3.mono HB2.out.size); clear hb3)
            | (go_at_call 22; refine (gensFrom_any _ _ _ _ _ _ _ _).mono ?_; rintro e w4 ⟨rfl, hw4⟩; obtain rfl := hw4.symm; have q40 := keep0 (below3 w3 (.cells #[.slice G.wv G.N G.cap, .slice G.yv G.M G.ycap, .int .i64 G.mark] 29)) q30; have q41 := keep0 (below3 w3 (.cells #[.slice G.wv G.N G.cap, .slice G.yv G.M G.ycap, .int .i64 G.mark] 29)) q31; have q42 := keep0 (below3 w3 (.cells #[.slice G.wv G.N G.cap, .slice G.yv G.M G.ycap, .int .i64 G.mark] 29)) q32)
            | (go_at_call 21; refine (HAR.out _ HB3.out).mono ?_; rintro e w5 ⟨rfl, hb5⟩; rw [HAL.out]; have q50 := keep0 hb5 q40; have q51 := keep0 hb5 q41; have q52 := keep0 hb5 q42; have HB5 : Hid (Below w.heap.size w w5) := (HB3.out.alloc HB3.out.size _).trans (hb5.mono (HB3.out.alloc HB3.out.size _).size); clear hb5)
            | (go_at_call 24; refine (HTH.out _ HB5.out).mono ?_; rintro e w6 ⟨ths, lv, rfl, hth⟩; obtain ⟨a6, c6, rfl, hlv⟩ := lsv_of hth.row; have q60 := keep0 hth.be q50; have q61 := keep0 hth.be q51; have q62 := keep0 hth.be q52; have HTP : Hid (ThP G w5 R ths (.slice a6 ths.length c6) w6 ∧ Lsv G w6 ths a6) := ⟨hth, hlv⟩; have HB6 : Hid (Below w.heap.size w w6) := HB5.out.trans (hth.be.mono HB5.out.size); clear hth hlv)
            | (go_at_call 23; refine (ages_any (HS.out.below HB6.out) ths HTP.out.1.ok HTP.out.1.few a6 c6 HTP.out.2).mono ?_; rintro e w7 ⟨r, rfl, hr7, hb7⟩; have q70 := keep0 hb7 q60; have q71 := keep0 hb7 q61; have q72 := keep0 hb7 q62; have HB7 : Hid (Below w.heap.size w w7) := HB6.out.trans (hb7.mono HB6.out.size); have HR7 : Hid (r = true ↔ ∀ t ∈ ths, Eok G.H G.mark t.x) := hr7; clear hr7 hb7))
        | fail
        all_goals (
          go_wp2_with fail
          go_ret
          exact ⟨r, rfl, gensP_iff HSZ.out HA.out HAL.out HTP.out.1.met HR7.out, HB7.out⟩)
end Go.Proofs.Ytagcbclgdlleiaa.Gn
