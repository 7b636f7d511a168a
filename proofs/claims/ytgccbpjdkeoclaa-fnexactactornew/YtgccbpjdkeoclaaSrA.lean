/-
  slices.Repeat of the list of one TInt 0, eight times.
-/
import Derived.Test.YtgccbpjdkeoclaaOsB
import Derived.Laws.CopyRow
import Derived.Deep.RegionLaw
import Derived.RegionTactic
namespace Go.Proofs.Ytgccbpjdkeoclaa
open Go.RowKit
set_option linter.unusedVariables false

theorem run_copy4 (w : World) (ty : TypeId) (g o dLen dCap : Nat) (a : Addr) (sLen sCap : Nat) (cur : Array Value) (t : TypeId) (n : Nat) (cs : List Value) (hn : Nat.min sLen dLen = n) (hcs : cs.length = n * 4)
    (hg : w.heap[g]? = some (.cells cur t (0, 0))) (hsrc : ∀ j v, cs[j]? = some v → w.cell? (a.add j) = some v) (hfit : o + cs.length ≤ cur.size) (h1 : ∀ v ∈ cs, v.oneCell' = true) :
    (Builtin.copy_ #[26, 26] ty #[.slice (some ⟨g, o, none⟩) dLen dCap, .slice (some a) sLen sCap]).run Try.prog w =
      .ok (goInt n) (w.setRow g (cur.toList.take o ++ cs ++ cur.toList.drop (o + cs.length)).toArray) := by
  have hl := run_loadCells_list (P := Try.prog) w a cs hsrc
  have hst := run_storeCells_at Try.prog g o t cs 0 cur w hg (by simpa using hfit) h1
  obtain ⟨i, hi, hz, hs, hb⟩ := infoParts9 info26
  rw [hcs] at hl
  have hn' : min sLen dLen = n := hn
  simp [Builtin.copy_, run_underlying underlying24, Builtin.lenOf, Builtin.firstCells, sizeOf, typeInfo, hi, hs, hn', hl, hst]
theorem step_copy4 {ops : Array Oper} {o : Oper} {a : Act} {w : World} {K : Act → World → Prop} {Q : Exit → Act → World → Prop} {E : Prop} (hgd : o.guard = none) (d s : Operand)
    (ho : o.op = .call { callee := .builtin .copy, args := #[d, s], argTypes := #[26, 26] }) (g off dLen dCap : Nat) (ad : Addr) (sLen sCap : Nat) (hd : a.eval d = .slice (some ⟨g, off, none⟩) dLen dCap) (hs : a.eval s = .slice (some ad) sLen sCap)
    (cur : Array Value) (t : TypeId) (n : Nat) (cs : List Value) (hn : Nat.min sLen dLen = n) (hcs : cs.length = n * 4)
    (hg : w.heap[g]? = some (.cells cur t (0, 0))) (hsrc : ∀ j v, cs[j]? = some v → w.cell? (ad.add j) = some v) (hfit : off + cs.length ≤ cur.size) (h1 : ∀ v ∈ cs, v.oneCell' = true)
    (newrow : List Value) (hnew : cur.toList.take off ++ cs ++ cur.toList.drop (off + cs.length) = newrow) (B : Nat) (w0 : World) (hb : Below B w0 w) (hBg : B ≤ g) (dst : Option Nat) (hdst : o.dst = dst) (ni : Int) (hni : (n : Int) = ni)
    (h : ∀ w', Hid (w'.heap[g]? = some (.cells newrow.toArray t (0, 0))) → Hid (Below B w0 w') → K (a.put dst (.int .i64 ni)) w') :
    if Region.wanted o (yielded ops a.tmps) = true then Oper.wp Try.prog o a w K Q else E := by
  have hw : Region.wanted o (yielded ops a.tmps) = true := by simp [Region.wanted, hgd]
  rw [if_pos hw]
  have hrun := run_copy4 w o.type g off dLen dCap ad sLen sCap cur t n cs hn hcs hg hsrc hfit h1
  unfold Oper.wp
  simp only [execOp, ho, resolve, invoke, builtin, Sem.run_bind, Sem.run_pure, Result.andThen_ok, List.map_toArray, List.map_cons, List.map_nil, hd, hs, hrun]
  have hgi : goInt n = .int .i64 ni := by rw [← hni]; rfl
  rw [hgi]
  show K (a.put o.dst _) _
  rw [hdst]
  refine h _ ?_ ?_
  · rw [hnew]; exact setRow_heap w g cur _ t (0, 0) hg
  · exact hb.trans ⟨rfl, rfl, rfl, by simp [World.setRow], fun k hk => setRow_other w g k _ (by omega)⟩

abbrev eV : List Value := [.int .i64 1, .int .i64 0, .string ⟨#[]⟩, .slice none 0 0]
abbrev zV : List Value := [.int .i64 0, .int .i64 0, .string ⟨#[]⟩, .slice none 0 0]
def rowA (n : Nat) : List Value := (List.replicate n eV).flatten ++ (List.replicate (8 - n) zV).flatten
theorem zeros8 : zeros 8 = (rowA 0).toArray := by kernel_rfl
theorem one8 {n : Nat} : ∀ u ∈ (List.replicate n eV).flatten, u.oneCell' = true := fun u hu => by
  obtain ⟨l, h1, h2⟩ := List.mem_flatten.1 hu
  obtain rfl := List.eq_of_mem_replicate h1
  simp at h2
  rcases h2 with rfl | rfl | rfl | rfl <;> rfl
theorem rowA_at {n j : Nat} {v : Value} (h : (List.replicate n eV).flatten[j]? = some v) : (rowA n)[j]? = some v := by
  unfold rowA
  rw [List.getElem?_append_left (List.getElem?_eq_some_iff.1 h).1]; exact h
theorem setRow_below {w : World} {g : Nat} {B : Nat} {w0 : World} (hb : Below B w0 w) (hg : B ≤ g) (c : Array Value) : Below B w0 (w.setRow g c) := hb.trans ⟨rfl, rfl, rfl, by simp [World.setRow], fun k hk => setRow_other w g k c (by omega)⟩
theorem src_row {w : World} {g n : Nat} (hg : w.heap[g]? = some (.cells (rowA n).toArray 32 (0, 0))) : ∀ j v, (List.replicate n eV).flatten[j]? = some v → w.cell? ((⟨g, 0, none⟩ : Addr).add j) = some v := fun j v hv => by
  rw [Addr.add_lit, Nat.zero_add]
  simp [World.cell?, hg, rowA_at hv]
theorem fill2 {n : Nat} (h : n = 1 ∨ n = 2 ∨ n = 4) : ((rowA n).toArray.toList.take (n * 4) ++ (List.replicate n eV).flatten ++ (rowA n).toArray.toList.drop (n * 4 + (List.replicate n eV).flatten.length)) = rowA (2 * n) := by
  rcases h with rfl | rfl | rfl <;> rfl

theorem run_fill4 {w W : World} {n : Nat} (h : n = 1 ∨ n = 2 ∨ n = 4) (hg : W.heap[w.heap.size]? = some (.cells (rowA n).toArray 32 (0, 0))) (hb : Below w.heap.size w W) :
    ∃ w2, (Builtin.copy_ #[26, 26] 3 #[.slice (some ⟨w.heap.size, n * 4, none⟩) (8 - n) (8 - n), .slice (some ⟨w.heap.size, 0, none⟩) n 8]).run Try.prog W = .ok (.int .i64 n) w2 ∧ w2.heap[w.heap.size]? = some (.cells (rowA (2 * n)).toArray 32 (0, 0)) ∧ Below w.heap.size w w2 := by
  have hl : (List.replicate n eV).flatten.length = n * 4 := by rcases h with rfl | rfl | rfl <;> rfl
  have hmin : Nat.min n (8 - n) = n := by rcases h with rfl | rfl | rfl <;> rfl
  have hfit : n * 4 + (List.replicate n eV).flatten.length ≤ (rowA n).toArray.size := by rcases h with rfl | rfl | rfl <;> decide
  have := run_copy4 W 3 w.heap.size (n * 4) (8 - n) (8 - n) ⟨w.heap.size, 0, none⟩ n 8 (rowA n).toArray 32 n (List.replicate n eV).flatten hmin hl hg (src_row hg) hfit one8
  rw [fill2 h] at this
  exact ⟨_, this, setRow_heap W w.heap.size _ _ _ (0, 0) hg, setRow_below hb (Nat.le_refl _) _⟩
theorem mul18 (w : World) : Calls Try.prog 31 #[.int .u64 1, .int .u64 8] w fun e w' => e = .returned (.tuple #[.int .u64 0, .int .u64 8]) ∧ w' = w := by
  refine (Try.bits_Mul 1 8 (by omega) (by omega) w).mono ?_
  intro e w' h
  simpa using h

set_option maxHeartbeats 1000000 in
set_option maxRecDepth 100000 in
theorem repeat8_any (b : Nat) (w : World) (hx : ∀ j, w.cell? ⟨b, j, none⟩ = eV.toArray[j]?) :
    Calls Try.prog 21 #[.slice (some ⟨b, 0, none⟩) 1 1, .int .i64 8] w fun e w' => ∃ g, e = .returned (.slice (some ⟨g, 0, none⟩) 8 8) ∧ w.heap.size ≤ g ∧ w'.heap[g]? = some (.cells (rowA 8).toArray 32 (0, 0)) ∧ Below w.heap.size w w' := by
  have hbl : b < w.heap.size := by
    have : w.cell? ⟨b, 0, none⟩ = some (.int .i64 1) := hx 0
    exact World.block_lt_of_cell? w _ this
  have hmk : ∀ w : World, (Instr.makeSlice 26 (.int .i64 8) (.int .i64 8)).run Try.prog w = .ok (.slice (some ⟨w.heap.size, 0, none⟩) 8 8) (w.alloc (.cells (zeros 8) 32)) := run_zeros 8 (by omega)
  have hg0 : (w.alloc (.cells (zeros 8) 32)).heap[w.heap.size]? = some (.cells (rowA 0).toArray 32 (0, 0)) := by
    rw [zeros8]; show (w.heap.push _)[w.heap.size]? = _; simp
  have hcp : (Builtin.copy_ #[26, 26] 3 #[.slice (some ⟨w.heap.size, 0, none⟩) 8 8, .slice (some ⟨b, 0, none⟩) 1 1]).run Try.prog (w.alloc (.cells (zeros 8) 32)) = .ok (.int .i64 1) ((w.alloc (.cells (zeros 8) 32)).setRow w.heap.size (rowA 1).toArray) := by
    have := run_copy4 (w.alloc (.cells (zeros 8) 32)) 3 w.heap.size 0 8 8 ⟨b, 0, none⟩ 1 1 (rowA 0).toArray 32 1 eV rfl rfl hg0 (fun j v hv => by
      rw [Addr.add_lit, Nat.zero_add, World.cell?_alloc_lt (h := hbl), hx j]; simpa using hv) (by decide) (by intro u hu; simp at hu; rcases hu with rfl | rfl | rfl | rfl <;> rfl)
    exact this
  obtain ⟨W1, hW1⟩ : ∃ W1, W1 = (w.alloc (.cells (zeros 8) 32)).setRow w.heap.size (rowA 1).toArray := ⟨_, rfl⟩
  have HG1 : Hid (W1.heap[w.heap.size]? = some (.cells (rowA 1).toArray 32 (0, 0))) := by rw [hW1]; exact setRow_heap _ _ _ _ _ _ hg0
  have HB1 : Hid (Below w.heap.size w W1) := by rw [hW1]; exact setRow_below ((Below.refl _ _).alloc (Nat.le_refl _) _) (Nat.le_refl _) _
  rw [← hW1] at hcp
  clear hW1 hg0 hx hbl
  go_enter Try.func21, Try.ntmps21
  go_wp2_with (go_at_call 31; refine (mul18 _).mono ?_; rintro e w' ⟨rfl, hw'⟩; obtain rfl := hw'.symm)
  clear hcp hmk
  go_loopw [8] (fun v wr => ∃ n : Nat, (n = 1 ∨ n = 2 ∨ n = 4 ∨ n = 8) ∧ v = .int .i64 n ∧ wr.heap[w.heap.size]? = some (.cells (rowA n).toArray 32 (0, 0)) ∧ Below w.heap.size w wr) (fun v _ => 8 - (intOf v).toNat)
  case atStart => exact ⟨1, .inl rfl, rfl, HG1.out, HB1.out⟩
  case round =>
    obtain ⟨n, hn, rfl, hg, hb⟩ := hrel
    have HG : Hid (wr.heap[w.heap.size]? = some (.cells (rowA n).toArray 32 (0, 0))) := hg
    have HB : Hid (Below w.heap.size w wr) := hb
    clear hg hb
    have e2 : IntKind.i64.wrap 2 = 2 := by decide
    have e4 : IntKind.i64.wrap 4 = 4 := by decide
    have e8 : IntKind.i64.wrap 8 = 8 := by decide
    rcases hn with rfl | rfl | rfl | rfl
    · obtain ⟨w2, hcp2, hg2, hb2⟩ := run_fill4 (n := 1) (W := wr.drew) (by omega) HG.out HB.out.drew
      have HG2 : Hid (w2.heap[w.heap.size]? = some (.cells (rowA 2).toArray 32 (0, 0))) := hg2
      have HB2 : Hid (Below w.heap.size w w2) := hb2
      clear hg2 hb2
      have hcp3 : (Builtin.copy_ #[26, 26] 3 #[.slice (some ⟨w.heap.size, 4, none⟩) 7 7, .slice (some ⟨w.heap.size, 0, none⟩) 1 8]).run Try.prog wr.drew = .ok (.int .i64 1) w2 := hcp2
      clear hcp2
      go_wp2_with fail
      go_region
      all_goals
        clear hcp3
        go_wp2_with fail
        go_roundw
        case rel => exact ⟨2, by omega, by rfl, HG2.out, HB2.out⟩
        case measure => simp [intOf]
    · obtain ⟨w2, hcp2, hg2, hb2⟩ := run_fill4 (n := 2) (W := wr.drew) (by omega) HG.out HB.out.drew
      have HG2 : Hid (w2.heap[w.heap.size]? = some (.cells (rowA 4).toArray 32 (0, 0))) := hg2
      have HB2 : Hid (Below w.heap.size w w2) := hb2
      clear hg2 hb2
      have hcp3 : (Builtin.copy_ #[26, 26] 3 #[.slice (some ⟨w.heap.size, 8, none⟩) 6 6, .slice (some ⟨w.heap.size, 0, none⟩) 2 8]).run Try.prog wr.drew = .ok (.int .i64 2) w2 := hcp2
      clear hcp2
      go_wp2_with fail
      go_region
      all_goals
        clear hcp3
        go_wp2_with fail
        go_roundw
        case rel => exact ⟨4, by omega, by rfl, HG2.out, HB2.out⟩
        case measure => simp [intOf]
    · obtain ⟨w2, hcp2, hg2, hb2⟩ := run_fill4 (n := 4) (W := wr.drew) (by omega) HG.out HB.out.drew
      have HG2 : Hid (w2.heap[w.heap.size]? = some (.cells (rowA 8).toArray 32 (0, 0))) := hg2
      have HB2 : Hid (Below w.heap.size w w2) := hb2
      clear hg2 hb2
      have hcp3 : (Builtin.copy_ #[26, 26] 3 #[.slice (some ⟨w.heap.size, 16, none⟩) 4 4, .slice (some ⟨w.heap.size, 0, none⟩) 4 8]).run Try.prog wr.drew = .ok (.int .i64 4) w2 := hcp2
      clear hcp2
      go_wp2_with fail
      go_region
      all_goals
        clear hcp3
        go_wp2_with fail
        go_roundw
        case rel => exact ⟨8, by omega, by rfl, HG2.out, HB2.out⟩
        case measure => simp [intOf]
    · go_wp2_with fail
      go_ret
      exact ⟨w.heap.size, rfl, Nat.le_refl _, HG.out, HB.out⟩
end Go.Proofs.Ytgccbpjdkeoclaa
