/-
  ownTerms: a copy of terms in memory of its own.
-/
import Derived.Test.YtimnnedmpmlmdaaOsF
import Derived.Deep.RegionWith
import Derived.Carry
namespace Go.Proofs.Ytimnnedmpmlmdaa
open Go.RowKit
set_option linter.unusedVariables false

def nnOf (w : World) (C : Nat) : Nat := match w.cell? ⟨C, 2, none⟩ with | some (.int _ n) => n.toNat | _ => 0
def openOf (w : World) (C : Nat) : Nat := match w.cell? ⟨C, 0, none⟩ with | some (.slice _ n _) => n | _ => 0
theorem nnOf_is {w : World} {C n : Nat} (h : w.cell? ⟨C, 2, none⟩ = some (.int .i64 n)) : nnOf w C = n := by
  unfold nnOf; rw [h]; simp
theorem openOf_is {w : World} {C n c : Nat} {a : Option Addr} (h : w.cell? ⟨C, 0, none⟩ = some (.slice a n c)) : openOf w C = n := by
  unfold openOf; rw [h]

/-- What ownTerms answers. -/
def OwnP (w : World) (l : List Tm) (e : Ending) (w' : World) : Prop := ∃ ao' cap' bs', e = .returned (.slice ao' l.length cap') ∧ l.length ≤ cap' ∧ cap' ≤ maxLen ∧ OsL w' l bs' ao' ∧ bs'.Nodup ∧ (∀ b ∈ bs', w.heap.size ≤ b) ∧ Below w.heap.size w w'
/-- The same, and the room of the row that it answers. -/
def OwnQ (w : World) (l : List Tm) (e : Ending) (w' : World) : Prop := ∃ ao' cap' bs', e = .returned (.slice ao' l.length cap') ∧ l.length ≤ cap' ∧ cap' ≤ maxLen ∧ OsL w' l bs' ao' ∧ bs'.Nodup ∧ (∀ b ∈ bs', w.heap.size ≤ b) ∧ Below w.heap.size w w' ∧ ((l = [] ∧ ao' = none ∧ cap' = 0) ∨ (l ≠ [] ∧ ∃ g, ao' = some ⟨g, 0, none⟩ ∧ Szd w' g cap'))
/-- What it has in hand at each round. -/
def OwnI (w : World) (l : List Tm) (C mb g0 c0 : Nat) (wr : World) : Prop := ∃ (st : List Ps) (F : List Nat) (oa : Option Addr) (oc nn : Nat) (S : Nat → Nat → Prop), Wk w wr C mb (.slice oa st.length oc) F st nn (ntL l) S 0 [] ∧ Kont l g0 F wr st ∧ Top g0 c0 F wr st

theorem cp_start (w : World) : Cp w ((w.alloc (.map #[] 0)).alloc (.cells #[.slice none 0 0, .map (some w.heap.size), .int .i64 0] 119)) (w.heap.size + 1) w.heap.size (.slice none 0 0) [] 0 (fun _ _ => False) := by
  have e1 : (w.alloc (.map #[] 0)).heap.size = w.heap.size + 1 := by simp
  have q : ∀ j, ((w.alloc (.map #[] 0)).alloc (.cells #[.slice none 0 0, .map (some w.heap.size), .int .i64 0] 119)).cell? ⟨w.heap.size + 1, j, none⟩ = (#[.slice none 0 0, .map (some w.heap.size), .int .i64 0] : Array Value)[j]? := fun j => by
    rw [← e1, World.cell?_alloc_new]
  refine ⟨((Below.refl _ _).alloc (Nat.le_refl _) _).alloc (by simp) _, q 0, q 1, q 2, fun o => ?_, ⟨rfl, .inl ⟨rfl, rfl⟩⟩, ⟨#[], 0, ?_, fun e he => by simp at he⟩, fun b o h => h.elim, by omega, Nat.le_refl _, by omega, fun g hg => by simp [Value.ownBlock] at hg⟩
  · rw [← e1]; simp
  · show ((w.heap.push _).push _)[w.heap.size]? = _
    rw [Array.getElem?_push, if_neg (by simp), Array.getElem?_push, if_pos rfl]

theorem str_box (w : World) (k n : Int) (s : ByteArray) (v : Value) (hs : s.size ≤ 1048576) :
    Calls Try.prog 73 #[.string s] (w.alloc (.cells #[.int .i64 k, .int .i64 n, .string s, v] 30)).drew fun e w2 => e = .returned (.string s) ∧ Below w.heap.size w w2 ∧ ∀ z, w2.cell? ⟨w.heap.size, z, none⟩ = (#[.int .i64 k, .int .i64 n, .string s, v] : Array Value)[z]? := by
  refine (strClone_any s _ hs).mono ?_
  rintro e w2 ⟨h1, h2⟩
  have hb : Below w.heap.size w (w.alloc (.cells #[.int .i64 k, .int .i64 n, .string s, v] 30)).drew := ((Below.refl _ _).alloc (Nat.le_refl _) _).drew
  refine ⟨h1, hb.trans (h2.mono hb.size), fun z => ?_⟩
  rw [h2.cell (p := ⟨w.heap.size, z, none⟩) (by show w.heap.size < _; simp)]
  exact World.cell?_alloc_new w _ _ z

set_option maxHeartbeats 2000000 in
set_option maxRecDepth 100000 in
theorem ownTerms_anyq (l : List Tm) (bs : List Nat) (ao : Option Addr) (cap : Nat) (w : World) (h : OsL w l bs ao) (hd : ntL l ≤ 10000 ∨ bs.Nodup) (hn : ntL l ≤ 4194304) :
    Calls Try.prog 63 #[.slice ao l.length cap] w (OwnQ w l) := by
  have hlen : l.length ≤ ntL l := by rw [ntL_eq l]; omega
  have HB0 : Hid (Below w.heap.size w ((w.alloc (.map #[] 0)).alloc (.cells #[.slice none 0 0, .map (some w.heap.size), .int .i64 0] 119))) := ((Below.refl _ _).alloc (Nat.le_refl _) _).alloc (by simp) _
  by_cases hl : l = []
  · subst hl
    have k0 : ((w.alloc (.map #[] 0)).alloc (.cells #[.slice none 0 0, .map (some w.heap.size), .int .i64 0] 119)).cell? ⟨w.heap.size + 1, 0, none⟩ = some (.slice none 0 0) := (cp_start w).c0
    have hmm := @run_makeMap Try.prog
    go_enter Try.func63, Try.ntmps63
    go_wp2_with (go_at_call 72; fail)
    clear hmm
    refine (listOf_none _ _ _ _).mono ?_
    rintro e w1 ⟨rfl, hw1⟩
    obtain rfl := hw1.symm
    obtain ⟨W, hW⟩ : ∃ W, W = (w.alloc (.map #[] 0)).alloc (.cells #[.slice none 0 0, .map (some w.heap.size), .int .i64 0] 119) := ⟨_, rfl⟩
    rw [← hW] at k0 HB0 ⊢
    clear hW
    go_wp2_with fail
    go_loopw [] (fun wr => wr = W) (fun _ => 0)
    case atStart => rfl
    case round =>
      subst hrel
      go_wp2_with fail
      go_ret
      exact ⟨none, 0, [], rfl, Nat.le_refl _, Nat.zero_le _, by rw [OsL], by simp, (fun b hb => by cases hb), HB0.out, .inl ⟨rfl, rfl, rfl⟩⟩
  · obtain ⟨b, o, bs0, e1, e2, hfz, hrow⟩ := (OsL.iff hl).1 h
    subst e1 e2
    have hlt := OsL.lt l _ _ h
    have HL0 : Hid (Calls Try.prog 72 #[.pointer (some ⟨w.heap.size + 1, 0, none⟩), .slice (some ⟨b, o, none⟩) l.length cap] ((w.alloc (.map #[] 0)).alloc (.cells #[.slice none 0 0, .map (some w.heap.size), .int .i64 0] 119)) fun e w' => ∃ g c, e = .returned (.slice (some ⟨g, 0, none⟩) l.length c) ∧ l.length ≤ c ∧ c ≤ maxLen ∧ OwnI w l (w.heap.size + 1) w.heap.size g c w') := by
      refine (listOf_any w _ (w.heap.size + 1) w.heap.size (.slice none 0 0) [] 0 _ (cp_start w) l hl b o cap bs0 (OsL.below HB0.out h) (hlt b (by simp)) (by omega) (by omega) (by simp) (fun x hx => hlt x (by simp [hx])) (fun hS => hS.elim)).mono ?_
      rintro e w1 ⟨g, c, ov', rfl, hok, hg, hcp, hlf, hov⟩
      refine ⟨g, c, rfl, hok.le, hok.max, ?_⟩
      have hcp2 := hcp
      rw [Nat.zero_add, List.nil_append] at hcp2
      obtain ⟨oa, oc, rfl⟩ := hcp2.slice
      have hz0 := HB0.out.size
      have hzz : ((w.alloc (.map #[] 0)).alloc (.cells #[.slice none 0 0, .map (some w.heap.size), .int .i64 0] 119)).heap.size = w.heap.size + 2 := by simp
      rw [hzz] at hg
      have hgl : g < w1.heap.size := by
        have hr := hok.row
        cases hlc : l with
        | nil => exact absurd hlc hl
        | cons t r =>
          rw [hlc, OsR] at hr
          obtain ⟨_, _, _, ht, _⟩ := hr
          obtain ⟨v, hv⟩ := ht.head
          exact World.block_lt_of_cell? w1 _ hv
      have hovg : (Value.slice oa [(⟨g, c, l, bs0⟩ : Ps)].length oc).ownBlock ≠ some g := fun e => by
        rcases hov with h1 | ⟨q, h1, h2, h3⟩
        · rw [h1] at e; simp [Value.ownBlock] at e
        · rw [h1] at e; injection e with e; exact h3 e
      exact ⟨[⟨g, c, l, bs0⟩], [], oa, oc, l.length, _, Wk.start (o := o) hl hcp2 hok (by omega) hgl (by omega) (by omega) hovg (fun z hz => hlt z (by simp [hz])) (fun x y hS => by rcases hS with hS | ⟨h1, _⟩; exact hS.elim; exact h1) hd, Kont.start hl w1 g c bs0, .inr ⟨⟨g, c, l, bs0⟩, by simp, rfl, rfl⟩⟩
    have HNT : Hid (ntL l ≤ 4194304) := hn
    clear h hfz hrow hlt hd hlen hn
    have hmm := @run_makeMap Try.prog
    go_enter Try.func63, Try.ntmps63
    go_wp2_with (go_at_call 72; fail)
    clear hmm
    refine HL0.out.mono ?_
    rintro e w1 ⟨g0, c0, rfl, hc1, hc2, hI⟩
    have HI0 : Hid (OwnI w l (w.heap.size + 1) w.heap.size g0 c0 w1) := hI
    have HCAP : Hid (l.length ≤ c0 ∧ c0 ≤ maxLen) := ⟨hc1, hc2⟩
    clear hI hc1 hc2
    generalize hC : w.heap.size + 1 = C at *
    have HC : Hid (w.heap.size + 1 = C) := hC
    clear hC
    go_wp2_with fail
    go_loopw [] (fun wr => OwnI w l C w.heap.size g0 c0 wr) (fun wr => 2 * (ntL l - nnOf wr C) + openOf wr C)
    case atStart => exact HI0.out
    case round =>
      revert hrel
      generalize wr = wq
      intro hrel
      obtain ⟨st, F, oa, oc, nn, S, hw, hk, htp⟩ := hrel
      have HW : Hid (Wk w wq C w.heap.size (.slice oa st.length oc) F st nn (ntL l) S 0 []) := hw
      have HK : Hid (Kont l g0 F wq st) := hk
      have HTOP : Hid (Top g0 c0 F wq st) := htp
      have k0 := hw.cp.c0
      clear hw hk htp
      rcases List.eq_nil_or_concat st with rfl | ⟨st0, x, hst⟩
      · go_wp2_with fail
        go_ret
        obtain ⟨bs', ho, hnd, hlo⟩ := HW.out.fin HK.out
        exact ⟨_, _, bs', rfl, HCAP.out.1, HCAP.out.2, ho, hnd, hlo, HW.out.cp.be, .inr ⟨hl, g0, rfl, by rcases HTOP.out with h | ⟨x, hx, _⟩; exact h.2; cases hx⟩⟩
      · rw [List.concat_eq_append] at hst
        subst hst
        rw [List.length_append, List.length_singleton] at k0 HW
        obtain ⟨ob, rfl, hlast, hoc1, hoc2⟩ := HW.out.last
        have HIN : Hid (In w wq (wq.setCell ⟨C, 0, none⟩ (.slice (some ⟨ob, 0, none⟩) st0.length oc)) C w.heap.size (.slice (some ⟨ob, 0, none⟩) st0.length oc) F st0 [] x 0 nn nn (ntL l) S x.ob) := HW.out.pop
        obtain ⟨xg, xc, xm, xob⟩ := x
        have fz := HW.out.cp.fz
        unfold maxLen at hoc2
        have V1 : IntKind.i64.wrap (((st0.length + 1 : Nat) : Int) - 1) = (st0.length : Int) := by rw [IntKind.wrap_i64]; omega
        simp only [psV] at hlast
        have hmn : (xm.length : Int) ≤ 9223372036854775807 := by
          have h1 := (HW.out.ps ⟨xg, xc, xm, xob⟩ (by simp)).le
          have h2 := (HW.out.ps ⟨xg, xc, xm, xob⟩ (by simp)).max
          unfold maxLen at h2
          simp only at h1 h2
          omega
        go_wp2_with fail
        obtain ⟨WS, hWS⟩ : ∃ WS, WS = wq.setCell ⟨C, 0, none⟩ (.slice (some ⟨ob, 0, none⟩) st0.length oc) := ⟨_, rfl⟩
        rw [← hWS] at HIN ⊢
        clear hWS
        go_loopw [34] (fun vi wx => ∃ (i : Nat) (ov : Value) (cs : List Ps) (n2 : Nat) (S2 : Nat → Nat → Prop) (rem : List Nat), i ≤ xm.length ∧ vi = .int .i64 i ∧ In w wq wx C w.heap.size ov F st0 cs ⟨xg, xc, xm, xob⟩ i n2 nn (ntL l) S2 rem) (fun vi _ => xm.length - (intOf vi).toNat)
        case atStart => exact ⟨0, _, [], nn, S, xob, Nat.zero_le _, rfl, HIN.out⟩
        case round =>
          obtain ⟨i, ov, cs, n2, S2, rem, hi, rfl, hin⟩ := hrel
          have HN : Hid (In w wq wr C w.heap.size ov F st0 cs ⟨xg, xc, xm, xob⟩ i n2 nn (ntL l) S2 rem) := hin
          by_cases hlt : i < xm.length
          · obtain ⟨k, n, s, li, b1, b2, ao, cap, hat, er, q0, q1, q2, hs, q3, hle, hcp, hol, h2, hinl⟩ := drop_row hlt hin.row
            rw [Nat.mul_comm 4 i] at q0 q1 q2 q3
            have HAT : Hid (xm[i] = .mk k n s li) := hat
            have HS : Hid (s.size ≤ 1048576) := hs
            have hfr := hin.fr
            clear hat er hol h2 hinl hin hle hcp
            by_cases hli : li = []
            · subst hli
              have HMD : Hid (∀ w2, Below wr.heap.size wr w2 → Md w wq w2 C w.heap.size ov F st0 cs [] ⟨xg, xc, xm, xob⟩ i n2 nn (ntL l) S2 rem k n s [] (.slice none 0 0)) := fun w2 hb => (HN.out.call hb).void hlt HAT.out
              have HSTO : Hid (∀ w2, Below wr.heap.size wr w2 → w2.cell? ⟨xg, i * 4 + 2, none⟩ = some (.string s) ∧ w2.cell? ⟨xg, i * 4 + 3, none⟩ = some (.slice ao 0 cap) ∧ ∀ z, w2.frozen? ⟨xg, z, none⟩ = false) := fun w2 hb => by
                have hxl : xg < wr.heap.size := World.block_lt_of_cell? wr _ q0
                exact ⟨by rw [hb.cell (p := ⟨xg, i * 4 + 2, none⟩) hxl]; exact q2, by rw [hb.cell (p := ⟨xg, i * 4 + 3, none⟩) hxl]; exact q3, fun z => by rw [hb.frozen (p := ⟨xg, z, none⟩) hxl]; exact hfr z⟩
              obtain ⟨W, hW⟩ : ∃ W, W = wr.alloc (.cells #[.int .i64 k, .int .i64 n, .string s, .slice ao 0 cap] 30) := ⟨_, rfl⟩
              have qW : ∀ z, W.cell? ⟨wr.heap.size, z, none⟩ = (#[.int .i64 k, .int .i64 n, .string s, .slice ao 0 cap] : Array Value)[z]? := fun z => by rw [hW, World.cell?_alloc_new]
              have KSTR : Hid (Calls Try.prog 73 #[.string s] W.drew fun e w2 => e = .returned (.string s) ∧ Below wr.heap.size wr w2 ∧ ∀ z, w2.cell? ⟨wr.heap.size, z, none⟩ = (#[.int .i64 k, .int .i64 n, .string s, .slice ao 0 cap] : Array Value)[z]?) := by
                rw [hW]; exact str_box wr k n s (.slice ao 0 cap) HS.out
              go_wp2_with fail
              rw [← hW]
              clear hW
              go_region_with (first
                | (go_at_call 73; refine KSTR.out.mono ?_; rintro e w2 ⟨rfl, hb2, qb2⟩; obtain ⟨r2, r3, rf⟩ := HSTO.out w2 hb2; have HB2 : Hid (Below wr.heap.size wr w2) := hb2; clear hb2)
                | (go_at_call 72; refine (listOf_none _ _ _ _).mono ?_; rintro e w' ⟨rfl, hw'⟩; obtain rfl := hw'.symm))
              all_goals
                go_wp2_with fail
                go_roundw
                case rel =>
                  refine ⟨i + 1, ov, cs ++ [], n2, S2, rem, by omega, by go_num, (HMD.out w2 HB2.out).put ?_⟩
                  show Put2 xg (4 * i + 2) _ _ _ _
                  rw [Nat.mul_comm 4 i]
                  first
                    | exact put2_ab r2 r3
                    | exact put2_ba r2 r3
                case measure => simp [intOf]; omega
            · obtain ⟨b2, o2, cap2, bs2, rem2, er, q3', hol, hb0, hbs, hnew, hnT, hlT, hrow2⟩ := HN.out.asks hlt HAT.out hli
              rw [Nat.mul_comm 4 i] at q3'
              have eq3 := q3.symm.trans q3'
              simp only [Option.some.injEq, Value.slice.injEq, true_and] at eq3
              obtain ⟨rfl, rfl⟩ := eq3
              have KL : Hid (∀ w2, Below wr.heap.size wr w2 → Calls Try.prog 72 #[.pointer (some ⟨C, 0, none⟩), .slice (some ⟨b2, o2, none⟩) li.length cap] w2 fun e w3 => ∃ g3 c3, e = .returned (.slice (some ⟨g3, 0, none⟩) li.length c3) ∧ (∃ ov' S', Md w wq w3 C w.heap.size ov' F st0 cs [⟨g3, c3, li, bs2⟩] ⟨xg, xc, xm, xob⟩ i (n2 + li.length) nn (ntL l) S' rem2 k n s li (.slice (some ⟨g3, 0, none⟩) li.length c3)) ∧ w3.cell? ⟨xg, i * 4 + 2, none⟩ = some (.string s) ∧ (∃ v, w3.cell? ⟨xg, i * 4 + 3, none⟩ = some v) ∧ ∀ z, w3.frozen? ⟨xg, z, none⟩ = false) := fun w2 hb => by
                have hin2 := HN.out.call hb
                have hNT := HNT.out
                have hlen2 := hin2.wk.len
                refine (listOf_any w w2 C w.heap.size ov (st0 ++ cs) n2 S2 hin2.wk.cp li hli b2 o2 cap bs2 (OsL.below hb hol) hb0 (by omega) (by omega) (by omega) hbs hnew).mono ?_
                rintro e w3 ⟨g3, c3, ov', rfl, hok, hg, hcp3, hlf, hov⟩
                have hmd := hin2.full hlt HAT.out hli er (OsR.keep _ _ _ _ (fun x _ hl => hb.block x hl) (fun z v _ _ hv => by rw [hb.cell (p := ⟨xg, z, none⟩) (World.block_lt_of_cell? wr _ hv)]; exact hv) hrow2) hok hg hcp3 hlf hov
                have e2 := hmd.k2
                have e3 := hmd.k3
                rw [Nat.mul_comm 4 i] at e2 e3
                exact ⟨g3, c3, rfl, ⟨ov', _, hmd⟩, e2, e3, hmd.fr⟩
              clear hol hb0 hbs hnew hnT hlT hrow2 er q3'
              have HSTO : Hid (∀ w2, Below wr.heap.size wr w2 → w2.cell? ⟨xg, i * 4 + 2, none⟩ = some (.string s) ∧ w2.cell? ⟨xg, i * 4 + 3, none⟩ = some (.slice (some ⟨b2, o2, none⟩) li.length cap) ∧ ∀ z, w2.frozen? ⟨xg, z, none⟩ = false) := fun w2 hb => by
                have hxl : xg < wr.heap.size := World.block_lt_of_cell? wr _ q0
                exact ⟨by rw [hb.cell (p := ⟨xg, i * 4 + 2, none⟩) hxl]; exact q2, by rw [hb.cell (p := ⟨xg, i * 4 + 3, none⟩) hxl]; exact q3, fun z => by rw [hb.frozen (p := ⟨xg, z, none⟩) hxl]; exact hfr z⟩
              obtain ⟨W, hW⟩ : ∃ W, W = wr.alloc (.cells #[.int .i64 k, .int .i64 n, .string s, .slice (some ⟨b2, o2, none⟩) li.length cap] 30) := ⟨_, rfl⟩
              have qW : ∀ z, W.cell? ⟨wr.heap.size, z, none⟩ = (#[.int .i64 k, .int .i64 n, .string s, .slice (some ⟨b2, o2, none⟩) li.length cap] : Array Value)[z]? := fun z => by rw [hW, World.cell?_alloc_new]
              have KSTR : Hid (Calls Try.prog 73 #[.string s] W.drew fun e w2 => e = .returned (.string s) ∧ Below wr.heap.size wr w2 ∧ ∀ z, w2.cell? ⟨wr.heap.size, z, none⟩ = (#[.int .i64 k, .int .i64 n, .string s, .slice (some ⟨b2, o2, none⟩) li.length cap] : Array Value)[z]?) := by
                rw [hW]; exact str_box wr k n s (.slice (some ⟨b2, o2, none⟩) li.length cap) HS.out
              go_wp2_with fail
              rw [← hW]
              clear hW
              go_region_with (first
                | (go_at_call 73; refine KSTR.out.mono ?_; rintro e w2 ⟨rfl, hb2, qb2⟩; have HB2 : Hid (Below wr.heap.size wr w2) := hb2; clear hb2)
                | (go_at_call 72; refine (KL.out w2 HB2.out).mono ?_; rintro e w3 ⟨g3, c3, rfl, hmd3, r2, ⟨v3, r3⟩, rf⟩; have HMD3 : Hid (∃ ov' S', Md w wq w3 C w.heap.size ov' F st0 cs [⟨g3, c3, li, bs2⟩] ⟨xg, xc, xm, xob⟩ i (n2 + li.length) nn (ntL l) S' rem2 k n s li (.slice (some ⟨g3, 0, none⟩) li.length c3)) := hmd3; clear hmd3))
              all_goals
                go_wp2_with fail
                go_roundw
                case rel =>
                  obtain ⟨ov', S', hmd⟩ := HMD3.out
                  refine ⟨i + 1, ov', cs ++ [⟨g3, c3, li, bs2⟩], n2 + li.length, S', rem2, by omega, by go_num, hmd.put ?_⟩
                  show Put2 xg (4 * i + 2) _ _ _ _
                  rw [Nat.mul_comm 4 i]
                  first
                    | exact put2_ab r2 r3
                    | exact put2_ba r2 r3
                case measure => simp [intOf]; omega
          · have hfin : Wk w wr C w.heap.size ov (xg :: F) (st0 ++ cs) n2 (ntL l) S2 0 [] ∧ Kont l g0 (xg :: F) wr (st0 ++ cs) := HN.out.fin (by show xm.length ≤ i; omega) HK.out
            have HF : Hid (Wk w wr C w.heap.size ov (xg :: F) (st0 ++ cs) n2 (ntL l) S2 0 [] ∧ Kont l g0 (xg :: F) wr (st0 ++ cs)) := hfin
            have HTP2 : Hid (Top g0 c0 (xg :: F) wr (st0 ++ cs)) := HN.out.top HTOP.out
            have HFEW : Hid (nn + cs.length ≤ n2) := HN.out.few
            clear hfin hin
            go_wp2_with fail
            go_roundw
            case rel =>
              obtain ⟨hw, hk⟩ := HF.out
              obtain ⟨oa, oc2, rfl⟩ := hw.cp.slice
              exact ⟨st0 ++ cs, xg :: F, oa, oc2, n2, S2, hw, hk, HTP2.out⟩
            case measure =>
              obtain ⟨hw, hk⟩ := HF.out
              obtain ⟨oa, oc2, rfl⟩ := hw.cp.slice
              have a1 := nnOf_is hw.cp.c2
              have a2 := openOf_is hw.cp.c0
              have a3 := nnOf_is HW.out.cp.c2
              have a4 := openOf_is HW.out.cp.c0
              have a5 := hw.cnt
              have a6 := HFEW.out
              rw [a1, a2, a3, a4, List.length_append]
              omega
theorem ownTerms_any (l : List Tm) (bs : List Nat) (ao : Option Addr) (cap : Nat) (w : World) (h : OsL w l bs ao) (hd : ntL l ≤ 10000 ∨ bs.Nodup) (hn : ntL l ≤ 4194304) :
    Calls Try.prog 63 #[.slice ao l.length cap] w (OwnP w l) :=
  (ownTerms_anyq l bs ao cap w h hd hn).mono fun _ _ ⟨ao', cap', bs', h1, h2, h3, h4, h5, h6, h7, _⟩ => ⟨ao', cap', bs', h1, h2, h3, h4, h5, h6, h7⟩
end Go.Proofs.Ytimnnedmpmlmdaa
