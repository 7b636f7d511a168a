/-
  The laws' own functions on rows of instructions: sizes, copies, comparison.
  (Ahead of it, in this text: errors.As at the program's own error type noCode: of nil it answers false; of a noCode true. errors.As of a noCode: true; isNoCode. The program's CodeOk: it answers codeB. The laws' own functions on instructions: sizes and copies.)
-/
import Derived.Test.YtjibnlpjpbileaaGreatDoorRows
import Derived.WalkKit
import Derived.ProofKit
import Derived.LaidEql
import Derived.Stop.Asserts
import Derived.RowKitTokens
import Derived.Below
import Derived.Test.YtjibnlpjpbileaaGreatDoorCkA
import Derived.Test.YtjibnlpjpbileaaGreatDoorCtC
import Derived.Test.YtjibnlpjpbileaaGreatDoorCoI
import Derived.Laws.IdiomCopy
namespace Go.Proofs.YtjibnlpjpbileaaGreatDoor.Es
open Go.RowKit Go.Extern.Stop Go.Stop Go.Extern
set_option linter.unusedVariables false

/-- errors.As(nil, target). -/
theorem as_nil (t : Value) (w : World) :
    Calls Tryz.prog 131 #[.nilIface, t] w fun e w' => e = .returned (.bool false) ∧ w' = w := by
  go_enter Tryz.func131, Tryz.ntmps131
  go_wp2
  go_ret
  exact ⟨rfl, rfl⟩

theorem valueOfP (t : Addr) (w : World) : (ReflectliteValue.unpack (.iface 162 (.pointer (some t)))).run Tryz.prog w
    = .ok (.agg #[.pointer (some ⟨5, 162, none⟩), .pointer (some ⟨w.heap.size, 0, none⟩), .int .u64 150]) (w.alloc (.cells #[.pointer (some t)] 162)) := by kernel_rfl
theorem typeP (a : Addr) (w : World) : (ReflectliteValue.methodAny (ReflectliteValue.valueError "reflectlite.Value.Type" 0) (fun t _ _ _ => ReflectliteType.toType t) #[.agg #[.pointer (some ⟨5, 162, none⟩), .pointer (some a), .int .u64 150]]).run Tryz.prog w
    = .ok (.iface 251 (.agg #[.pointer (some ⟨5, 162, none⟩)])) w := by kernel_rfl
theorem kindP (w : World) : ((ReflectliteType.abiMethod fun t => (fun a : Nat => Value.int IntKind.u8 (a : Int)) <$> Rtype.kind t) #[.pointer (some ⟨5, 162, none⟩)]).run Tryz.prog w = .ok (.int .u8 22) w := by kernel_rfl
theorem kindE (w : World) : ((ReflectliteType.abiMethod fun t => (fun a : Nat => Value.int IntKind.u8 (a : Int)) <$> Rtype.kind t) #[.pointer (some ⟨5, 160, none⟩)]).run Tryz.prog w = .ok (.int .u8 24) w := by kernel_rfl

theorem rlm (z : Sem Value) (f : TypeId → Addr → Nat → Nat → Sem Value) (v : Value) :
    ReflectliteValue.method z f #[v] = (do match ← ReflectliteValue.parts v with | none => z | some (t, a, fl) => f t a fl (fl % 32)) := rfl
theorem partsP (a : Addr) (w : World) : (ReflectliteValue.parts (.agg #[.pointer (some ⟨5, 162, none⟩), .pointer (some a), .int .u64 150])).run Tryz.prog w = .ok (some (162, a, 150)) w := by kernel_rfl
theorem isNilP (a p : Addr) (W : World) (ha : W.cell? a = some (.pointer (some p))) :
    (ReflectliteValue.method (ReflectliteValue.valueError "reflectlite.Value.IsNil" 0) ReflectliteValue.isNil #[.agg #[.pointer (some ⟨5, 162, none⟩), .pointer (some a), .int .u64 150]]).run Tryz.prog W = .ok (.bool false) W := by
  rw [rlm]
  simp only [Sem.run_bind, partsP, Result.andThen]
  simp [ReflectliteValue.isNil, loadVar, isAgg, underlying, Tryz.underlying162, ha, Result.andThen]

theorem elemP (w : World) : (ReflectliteType.method ReflectliteType.elem #[.agg #[.pointer (some ⟨5, 162, none⟩)]]).run Tryz.prog w = .ok (.iface 251 (.agg #[.pointer (some ⟨5, 160, none⟩)])) w := by kernel_rfl
theorem implementsE (w : World) : (ReflectliteType.relation "Implements" ReflectliteType.implements_ #[.agg #[.pointer (some ⟨5, 160, none⟩)], .iface 251 (.agg #[.pointer (some ⟨5, 140, none⟩)])]).run Tryz.prog w = .ok (.bool true) w := by kernel_rfl
theorem typeOfE (v : Value) (w : World) : (ReflectliteType.typeOf #[.iface 160 v]).run Tryz.prog w = .ok (.iface 251 (.agg #[.pointer (some ⟨5, 160, none⟩)])) w := by kernel_rfl
theorem assignableE (w : World) : (ReflectliteType.relation "AssignableTo" ReflectliteType.assignableTo #[.agg #[.pointer (some ⟨5, 160, none⟩)], .iface 251 (.agg #[.pointer (some ⟨5, 160, none⟩)])]).run Tryz.prog w = .ok (.bool true) w := by kernel_rfl
theorem valueOfE (s : ByteArray) (w : World) : (ReflectliteValue.unpack (.iface 160 (.string s))).run Tryz.prog w
    = .ok (.agg #[.pointer (some ⟨5, 160, none⟩), .pointer (some ⟨w.heap.size, 0, none⟩), .int .u64 152]) (w.alloc (.cells #[.string s] 160)) := by kernel_rfl
theorem elemOfP (w : World) : (Rtype.elem? 162).run Tryz.prog w = .ok (some 160) w := by kernel_rfl
theorem mkE (p : Addr) (w : World) : (ReflectliteValue.mk 160 p ReflectliteValue.flagAddr).run Tryz.prog w = .ok (.agg #[.pointer (some ⟨5, 160, none⟩), .pointer (some p), .int .u64 408]) w := by kernel_rfl
theorem elemV (a p : Addr) (W : World) (ha : W.cell? a = some (.pointer (some p))) :
    (ReflectliteValue.method (ReflectliteValue.valueError "reflectlite.Value.Elem" 0) ReflectliteValue.elem #[.agg #[.pointer (some ⟨5, 162, none⟩), .pointer (some a), .int .u64 150]]).run Tryz.prog W
      = .ok (.agg #[.pointer (some ⟨5, 160, none⟩), .pointer (some p), .int .u64 408]) W := by
  rw [rlm]
  simp only [Sem.run_bind, partsP, Result.andThen]
  simp [ReflectliteValue.elem, loadVar, isAgg, underlying, Tryz.underlying162, ha, Result.andThen, elemOfP, mkE]
theorem partsEa (a : Addr) (w : World) : (ReflectliteValue.parts (.agg #[.pointer (some ⟨5, 160, none⟩), .pointer (some a), .int .u64 408])).run Tryz.prog w = .ok (some (160, a, 408)) w := by kernel_rfl
theorem partsE (a : Addr) (w : World) : (ReflectliteValue.parts (.agg #[.pointer (some ⟨5, 160, none⟩), .pointer (some a), .int .u64 152])).run Tryz.prog w = .ok (some (160, a, 152)) w := by kernel_rfl
theorem directE (w : World) : (Rtype.directlyAssignable 160 160).run Tryz.prog w = .ok true w := by kernel_rfl
theorem setE (ta b : Addr) (s : ByteArray) (old : Value) (W : World) (hb : W.cell? b = some (.string s)) (ht : W.cell? ta = some old) (hf : W.frozen? ta = false) :
    (ReflectliteValue.set #[.agg #[.pointer (some ⟨5, 160, none⟩), .pointer (some ta), .int .u64 408], .agg #[.pointer (some ⟨5, 160, none⟩), .pointer (some b), .int .u64 152]]).run Tryz.prog W
      = .ok (.tuple #[]) (W.setCell ta (.string s)) := by
  show Sem.run Tryz.prog (ReflectliteValue.parts (.agg #[.pointer (some ⟨5, 160, none⟩), .pointer (some ta), .int .u64 408]) >>= fun x => ReflectliteValue.parts (.agg #[.pointer (some ⟨5, 160, none⟩), .pointer (some b), .int .u64 152]) >>= fun y => _) W = _
  rw [Sem.run_bind, partsEa]
  simp only [Result.andThen]
  rw [Sem.run_bind, partsE]
  simp only [Result.andThen]
  simp [ReflectliteValue.flagAddr, loadVar, isAgg, underlying, Tryz.underlying160, hb, Result.andThen, directE, storeVar, Value.cells, storeCells, Addr.add]
  rw [run_store Tryz.prog W ta _ _ (by rfl)]
  simp [ht, hf]
end Go.Proofs.YtjibnlpjpbileaaGreatDoor.Es
namespace Go.Proofs.YtjibnlpjpbileaaGreatDoor.Es
open Go.RowKit Go.Extern.Stop Go.Stop Go.Extern
set_option linter.unusedVariables false

theorem methodKind (h : Value) (w : World) : (Go.method 412 251 (.agg #[h]) "Kind").run Tryz.prog w = .ok (218, h) w := by kernel_rfl
theorem methodElem (h : Value) (w : World) : (Go.method 412 251 (.agg #[h]) "Elem").run Tryz.prog w = .ok (235, .agg #[h]) w := by kernel_rfl
theorem methodImplements (h : Value) (w : World) : (Go.method 412 251 (.agg #[h]) "Implements").run Tryz.prog w = .ok (236, .agg #[h]) w := by kernel_rfl
theorem methodAssignableTo (h : Value) (w : World) : (Go.method 412 251 (.agg #[h]) "AssignableTo").run Tryz.prog w = .ok (233, .agg #[h]) w := by kernel_rfl

set_option maxRecDepth 100000 in
set_option maxHeartbeats 4000000 in
theorem as_hit (s : ByteArray) (t : Addr) (old : Value) (w : World) (hg : w.cell? ⟨0, 0, none⟩ = some (.iface 251 (.agg #[.pointer (some ⟨5, 140, none⟩)]))) (ht0 : w.cell? t = some old) (hf0 : w.frozen? t = false) :
    Calls Tryz.prog 131 #[.iface 160 (.string s), .iface 162 (.pointer (some t))] w fun ev w' => ev = .returned (.bool true) ∧ w' = ((((w.alloc (.cells #[.pointer (some t)] 162)).alloc (.cells #[.pointer (some ⟨5, 162, none⟩), .pointer (some ⟨w.heap.size, 0, none⟩), .int .u64 150] 208)).alloc (.cells #[.pointer (some ⟨5, 162, none⟩), .pointer (some ⟨w.heap.size, 0, none⟩), .int .u64 150] 208)).alloc (.cells #[.string s] 160)).setCell t (.string s) := by
  have h6 := @run_callFunc_extern Tryz.prog 160 _ (fun args => ReflectliteValue.unpack (args.getD 0 (.tuple #[]))) Tryz.func160 (by kernel_rfl) (by kernel_rfl) (by kernel_rfl) (by kernel_rfl)
  have h7 := @run_callFunc_extern Tryz.prog 161 _ (ReflectliteValue.methodAny (ReflectliteValue.valueError "reflectlite.Value.Type" 0) (fun t _ _ _ => ReflectliteType.toType t)) Tryz.func161 (by kernel_rfl) (by kernel_rfl) (by kernel_rfl) (by kernel_rfl)
  have h8 := @run_callFunc_extern Tryz.prog 162 _ (ReflectliteValue.method (ReflectliteValue.valueError "reflectlite.Value.IsNil" 0) ReflectliteValue.isNil) Tryz.func162 (by kernel_rfl) (by kernel_rfl) (by kernel_rfl) (by kernel_rfl)
  have h27 := @run_callFunc_extern Tryz.prog 218 _ (ReflectliteType.abiMethod fun t => do pure (.int .u8 (← Rtype.kind t))) Tryz.func218 (by kernel_rfl) (by kernel_rfl) (by kernel_rfl) (by kernel_rfl)
  have h37 := @run_callFunc_extern Tryz.prog 235 _ (ReflectliteType.method ReflectliteType.elem) Tryz.func235 (by kernel_rfl) (by kernel_rfl) (by kernel_rfl) (by kernel_rfl)
  have h38 := @run_callFunc_extern Tryz.prog 236 _ (ReflectliteType.relation "Implements" ReflectliteType.implements_) Tryz.func236 (by kernel_rfl) (by kernel_rfl) (by kernel_rfl) (by kernel_rfl)
  have h10 := @run_callFunc_extern Tryz.prog 183 _ ReflectliteType.typeOf Tryz.func183 (by kernel_rfl) (by kernel_rfl) (by kernel_rfl) (by kernel_rfl)
  have h35 := @run_callFunc_extern Tryz.prog 233 _ (ReflectliteType.relation "AssignableTo" ReflectliteType.assignableTo) Tryz.func233 (by kernel_rfl) (by kernel_rfl) (by kernel_rfl) (by kernel_rfl)
  have h11 := @run_callFunc_extern Tryz.prog 184 _ (ReflectliteValue.method (ReflectliteValue.valueError "reflectlite.Value.Elem" 0) ReflectliteValue.elem) Tryz.func184 (by kernel_rfl) (by kernel_rfl) (by kernel_rfl) (by kernel_rfl)
  have h12 := @run_callFunc_extern Tryz.prog 185 _ ReflectliteValue.set Tryz.func185 (by kernel_rfl) (by kernel_rfl) (by kernel_rfl) (by kernel_rfl)
  have tO := typeOfE
  have mA := methodAssignableTo
  have a25 := assignableE
  have v25 := valueOfE
  have f6 := valueOfP
  have f7 := typeP
  have mK := methodKind
  have mE := methodElem
  have mI := methodImplements
  have k27 := kindP
  have k25 := kindE
  have e27 := elemP
  have i25 := implementsE
  have n8 := isNilP ⟨w.heap.size, 0, none⟩ t ((w.alloc (.cells #[.pointer (some t)] 162)).alloc (.cells #[.pointer (some ⟨5, 162, none⟩), .pointer (some ⟨w.heap.size, 0, none⟩), .int .u64 150] 208)) (by simp)
  have hlt : 0 < w.heap.size := World.block_lt_of_cell? w _ hg
  have hg2 : ((w.alloc (.cells #[.pointer (some t)] 162)).alloc (.cells #[.pointer (some ⟨5, 162, none⟩), .pointer (some ⟨w.heap.size, 0, none⟩), .int .u64 150] 208)).cell? ⟨0, 0, none⟩ = some (.iface 251 (.agg #[.pointer (some ⟨5, 140, none⟩)])) := by
    rw [World.cell?_alloc_lt _ _ ⟨0, 0, none⟩ (by simp <;> omega), World.cell?_alloc_lt _ _ ⟨0, 0, none⟩ hlt]; exact hg
  have htl : t.block < w.heap.size := by
    rcases Nat.lt_or_ge t.block w.heap.size with h | h
    · exact h
    · simp [World.cell?, Array.getElem?_eq_none h] at ht0
  have el := elemV ⟨w.heap.size, 0, none⟩ t (((w.alloc (.cells #[.pointer (some t)] 162)).alloc (.cells #[.pointer (some ⟨5, 162, none⟩), .pointer (some ⟨w.heap.size, 0, none⟩), .int .u64 150] 208)).alloc (.cells #[.pointer (some ⟨5, 162, none⟩), .pointer (some ⟨w.heap.size, 0, none⟩), .int .u64 150] 208)) (by rw [World.cell?_alloc_lt _ _ ⟨w.heap.size, 0, none⟩ (by simp; omega)]; simp)
  have st := setE t ⟨w.heap.size + 1 + 1 + 1, 0, none⟩ s old ((((w.alloc (.cells #[.pointer (some t)] 162)).alloc (.cells #[.pointer (some ⟨5, 162, none⟩), .pointer (some ⟨w.heap.size, 0, none⟩), .int .u64 150] 208)).alloc (.cells #[.pointer (some ⟨5, 162, none⟩), .pointer (some ⟨w.heap.size, 0, none⟩), .int .u64 150] 208)).alloc (.cells #[.string s] 160))
    (by rw [World.cell?_alloc_at _ _ _ _ (by simp)]; rfl)
    (by rw [World.cell?_alloc_lt _ _ t (by simp; omega), World.cell?_alloc_lt _ _ t (by simp; omega), World.cell?_alloc_lt _ _ t (by simp; omega), World.cell?_alloc_lt _ _ t htl]; exact ht0)
    (by rw [World.frozen?_alloc_old _ _ t (by simp; omega), World.frozen?_alloc_old _ _ t (by simp; omega), World.frozen?_alloc_old _ _ t (by simp; omega), World.frozen?_alloc_old _ _ t (Nat.ne_of_lt htl)]; exact hf0)
  go_enter Tryz.func131, Tryz.ntmps131
  go_wp2
  refine wp_loop_rounds 1 ?_
  rw [rounds_succ]
  go_wp2
  go_ret
  exact ⟨rfl, rfl⟩

/-- What the library's own variable holds: the type error. -/
def Ety (w : World) : Prop := w.cell? ⟨0, 0, none⟩ = some (.iface 251 (.agg #[.pointer (some ⟨5, 140, none⟩)]))
theorem Ety.below {w w' : World} (h : Ety w) (hb : Below w.heap.size w w') : Ety w' := (hb.cell (p := ⟨0, 0, none⟩) (World.block_lt_of_cell? w _ h)).trans h

theorem noCode_nil (w : World) : Calls Tryz.prog 108 #[.nilIface] w fun e w' => e = .returned (.bool false) ∧ Below w.heap.size w w' := by
  go_enter Tryz.func108, Tryz.ntmps108
  go_wp2_with (go_at_call 131; refine (as_nil _ _).mono ?_; rintro e w' ⟨rfl, rfl⟩)
  go_ret
  exact ⟨rfl, (Below.refl _ w).alloc (Nat.le_refl _) _⟩
theorem noCode_hit (s : ByteArray) (w : World) (hE : Ety w) : Calls Tryz.prog 108 #[.iface 160 (.string s)] w fun e w' => e = .returned (.bool true) ∧ Below w.heap.size w w' := by
  have HE : Hid (Ety (w.alloc (.cells #[.string ByteArray.empty] 160))) := hE.below ((Below.refl _ w).alloc (Nat.le_refl _) _)
  go_enter Tryz.func108, Tryz.ntmps108
  go_wp2_with (go_at_call 131; fail)
  refine (as_hit s ⟨w.heap.size, 0, none⟩ (.string ByteArray.empty) _ HE.out (by simp) (by simp)).mono ?_
  rintro e w1 ⟨rfl, hw1⟩
  have HB : Hid (Below w.heap.size w w1) := by
    show Below _ _ _
    rw [hw1]
    exact ((((((Below.refl _ w).alloc (Nat.le_refl _) _).alloc (by simp) _).alloc (by simp; try omega) _).alloc (by simp; try omega) _).alloc (by simp; try omega) _).setCell (Nat.le_refl _) _
  clear hw1
  go_wp2
  go_ret
  exact ⟨rfl, HB.out⟩
end Go.Proofs.YtjibnlpjpbileaaGreatDoor.Es
namespace Go.Proofs.YtjibnlpjpbileaaGreatDoor.Code
open Go.RowKit
open Go.Proofs.YtjibnlpjpbileaaGreatDoor.Atom
set_option linter.unusedVariables false

theorem implIns_spec (op a b c n N : Int) (s : ByteArray) (w : World) (hs : s.size ≤ maxLen) (hS : Shp w) :
    Calls Tryz.prog 132 #[.agg #[.int .i64 op, .int .i64 a, .int .i64 b, .int .i64 c, .int .i64 n, .string s], .int .i64 N] w fun e w' => e = .returned (.bool (specOk ⟨op, a, b, c, n, s⟩ N)) ∧ Below w.heap.size w w' := by
  have := implIns_any op a b c n N s w hs hS
  rw [implOk_eq] at this
  exact this

/-- What checkCode answers: nil of right code, else an error. -/
def ChkP (l : List I) (e : Ending) : Prop := (codeB l = true ∧ e = .returned .nilIface) ∨ (codeB l = false ∧ ∃ s : ByteArray, e = .returned (.iface 160 (.string s)))
theorem chk_no {l : List I} (h : codeB l = false) (s : ByteArray) : ChkP l (.returned (.iface 160 (.string s))) := .inr ⟨h, s, rfl⟩
theorem chk_yes {l : List I} (h : codeB l = true) : ChkP l (.returned .nilIface) := .inl ⟨h, rfl⟩

set_option maxHeartbeats 2000000 in
theorem check_any (l : List I) (ao : Option Addr) (cap : Nat) (w : World) (hr : RowI w ao l) (hs : SmI maxLen l) (hl : l.length ≤ 9223372036854775807) (hS : Shp w) (hP : Pow w) :
    Calls Tryz.prog 109 #[.slice ao l.length cap] w fun e w' => ChkP l e ∧ Below w.heap.size w w' := by
  by_cases hn : 1 ≤ l.length ∧ l.length ≤ 200
  rotate_left
  · have HR : Hid (codeB l = false) := codeB_no hn
    by_cases h1 : (l.length : Int) < 1
    · go_enter Tryz.func109, Tryz.ntmps109
      go_wp2
      go_ret
      exact ⟨chk_no HR.out _, Below.refl _ _⟩
    · have h2 : 200 < (l.length : Int) := by omega
      go_enter Tryz.func109, Tryz.ntmps109
      go_wp2
      go_ret
      exact ⟨chk_no HR.out _, Below.refl _ _⟩
  · have HC := codeB_is hn
    obtain ⟨m, hm⟩ : ∃ m, l.length = m + 1 := ⟨l.length - 1, by omega⟩
    rcases hr with h | ⟨b, o, rfl, hrow⟩
    · rw [h] at hm; simp at hm
    have hm2 : m < 200 := by omega
    have hml : m < l.length := by omega
    have elast : lastOp l = (l[m]'hml).op := by
      unfold lastOp
      rw [show l.length - 1 = m by omega, List.getD_eq_getElem?_getD, List.getElem?_eq_getElem hml]; rfl
    have hlc := fun (w' : World) (hb : Below w.heap.size w w') => ((hrow m hml).below hb).c0
    generalize (l[m]'hml).op = lop at hlc elast
    have HR : Hid (codeB l = (((lop == 19) || (lop == 12)) && l.all fun x => specOk x ((m + 1 : Nat) : Int))) := by
      show _ = _
      rw [HC, elast, hm]
    have HLC : Hid (∀ w', Below w.heap.size w w' → w'.cell? ⟨b, o + m * 6, none⟩ = some (.int .i64 lop)) := hlc
    have e1 : IntKind.i64.wrap ((m : Int) + 1 - 1) = (m : Int) := by rw [IntKind.wrap_i64]; omega
    have e2 : IntKind.i64.wrap (m : Int) = (m : Int) := by rw [IntKind.wrap_i64]; omega
    have HRW : Hid (∀ j (hj : j < l.length), Bx6 w b (o + j * 6) l[j]) := hrow
    have HLM : Hid (l.length = m + 1) := hm
    rw [hm]
    clear HC elast hlc hrow hm hn hl hml
    go_enter Tryz.func109, Tryz.ntmps109
    go_wp2_with fail
    go_loopw [18] (fun i wr => ∃ k : Nat, k ≤ m + 1 ∧ i = .int .i64 k ∧ Below w.heap.size w wr ∧ (l.take k).all (fun x => specOk x ((m + 1 : Nat) : Int)) = true) (fun i wr => m + 1 - (intOf i).toNat)
    case atStart => exact ⟨0, Nat.zero_le _, rfl, Below.refl _ _, rfl⟩
    case round =>
      obtain ⟨k, hk, rfl, hbr, hall⟩ := hrel
      have HBR : Hid (Below w.heap.size w wr) := hbr
      have HAL : Hid ((l.take k).all (fun x => specOk x ((m + 1 : Nat) : Int)) = true) := hall
      clear hbr hall
      by_cases hlt : k < m + 1
      · have hkl : k < l.length := by rw [HLM.out]; exact hlt
        have hbx := (HRW.out k hkl).below HBR.out
        have hsx := hs l[k] (List.getElem_mem hkl)
        have HTK : Hid ((l.take (k + 1)).all (fun x => specOk x ((m + 1 : Nat) : Int)) = specOk l[k] ((m + 1 : Nat) : Int)) := by
          show _ = _
          rw [List.take_succ_eq_append_getElem hkl, List.all_append, HAL.out]; simp
        have HBAD : Hid (specOk l[k] ((m + 1 : Nat) : Int) = false → codeB l = false) := fun h => by
          rw [HR.out, Bool.and_eq_false_iff]
          right
          rw [List.all_eq_false]
          exact ⟨l[k], List.getElem_mem hkl, by rw [h]; simp⟩
        generalize hx : l[k] = x at hbx hsx HTK HBAD
        obtain ⟨op, xa, xb, xc, xn, xs⟩ := x
        have d0 := hbx.c0
        have d1 := hbx.c1
        have d2 := hbx.c2
        have d3 := hbx.c3
        have d4 := hbx.c4
        have d5 := hbx.c5
        clear hbx hx
        have e3 : ((m + 1 : Nat) : Int) = (m : Int) + 1 := by omega
        have HSP : Hid (∀ w', Shp w' → Calls Tryz.prog 132 #[.agg #[.int .i64 op, .int .i64 xa, .int .i64 xb, .int .i64 xc, .int .i64 xn, .string xs], .int .i64 ((m : Int) + 1)] w' fun e w'' => e = .returned (.bool (specOk ⟨op, xa, xb, xc, xn, xs⟩ ((m + 1 : Nat) : Int))) ∧ Below w'.heap.size w' w'') := fun w' h' => by
          rw [e3]; exact implIns_spec op xa xb xc xn _ xs w' hsx h'
        clear e3
        generalize hq : specOk ⟨op, xa, xb, xc, xn, xs⟩ ((m + 1 : Nat) : Int) = q at HTK HBAD HSP
        clear hq
        have HBA : Hid (Below w.heap.size w (wr.alloc (.cells #[.int .i64 op, .int .i64 xa, .int .i64 xb, .int .i64 xc, .int .i64 xn, .string xs] 65))) := HBR.out.alloc HBR.out.size _
        cases q
        · have hI : (Lib.itoa (k : Int)).length ≤ 21 := Lib.itoa_length_le _ (by omega) (by omega)
          have HIT : Hid (∀ w', Pow w' → Calls Tryz.prog 133 #[.int .i64 (k : Int)] w' fun e w'' => e = .returned (.string ⟨(Lib.itoa (k : Int)).toArray⟩) ∧ Below w'.heap.size w' w'') := fun w' h' => itoa_any _ (by omega) (by omega) w' h'
          generalize Lib.itoa (k : Int) = L at hI HIT
          go_wp2_with (first
            | (go_at_call 132; refine (HSP.out _ (hS.below HBA.out)).mono ?_; rintro e w3 ⟨rfl, hb3⟩; have HB3 : Hid (Below w.heap.size w w3) := HBA.out.trans (hb3.mono HBA.out.size); clear hb3)
            | (go_at_call 133; refine (HIT.out _ (hP.below HB3.out)).mono ?_; rintro e w4 ⟨rfl, hb4⟩; have HB4 : Hid (Below w.heap.size w w4) := HB3.out.trans (hb4.mono HB3.out.size); clear hb4))
          go_ret
          exact ⟨chk_no (HBAD.out (by trivial)) _, HB4.out⟩
        · go_wp2_with (go_at_call 132; refine (HSP.out _ (hS.below HBA.out)).mono ?_; rintro e w3 ⟨rfl, hb3⟩; have HB3 : Hid (Below w.heap.size w w3) := HBA.out.trans (hb3.mono HBA.out.size); clear hb3)
          go_roundw
          case rel => exact ⟨k + 1, by omega, by go_num, HB3.out, HTK.out⟩
          case measure => simp [intOf]; omega
      · have hF := HAL.out
        rw [List.take_of_length_le (by rw [HLM.out]; omega)] at hF
        have HFI : Hid (codeB l = ((lop == 19) || (lop == 12))) := by show _ = _; rw [HR.out, hF]; simp
        clear hF
        have c0 := HLC.out wr HBR.out
        by_cases q19 : lop = 19
        · have HT : Hid (codeB l = true) := by show _ = _; rw [HFI.out, q19]; rfl
          subst q19
          go_wp2
          go_ret
          exact ⟨chk_yes HT.out, HBR.out⟩
        · by_cases q12 : lop = 12
          · have HT : Hid (codeB l = true) := by show _ = _; rw [HFI.out, q12]; rfl
            subst q12
            go_wp2
            go_ret
            exact ⟨chk_yes HT.out, HBR.out⟩
          · have HF : Hid (codeB l = false) := by show _ = _; rw [HFI.out, show (lop == 19) = false by simp; omega, show (lop == 12) = false by simp; omega]; rfl
            have q1 : (lop != 19) = true := by simp; omega
            have q2 : (lop != 12) = true := by simp; omega
            go_wp2
            go_ret
            exact ⟨chk_no HF.out _, HBR.out⟩

theorem implCode_any (l : List I) (ao : Option Addr) (cap : Nat) (w : World) (hr : RowI w ao l) (hs : SmI maxLen l) (hl : l.length ≤ 9223372036854775807) (hS : Shp w) (hP : Pow w) (hE : Es.Ety w) :
    Calls Tryz.prog 75 #[.slice ao l.length cap] w fun e w' => e = .returned (.bool (codeB l)) ∧ Below w.heap.size w w' := by
  have HCH : Hid (∀ w', w' = w → Calls Tryz.prog 109 #[.slice ao l.length cap] w' fun e w'' => ChkP l e ∧ Below w'.heap.size w' w'') := fun w' h => by
    subst h; exact check_any l ao cap w' hr hs hl hS hP
  go_enter Tryz.func75, Tryz.ntmps75
  go_wp2_with (go_at_call 109; fail)
  refine (HCH.out _ rfl).mono ?_
  rintro e w1 ⟨hc, hb1⟩
  have HB1 : Hid (Below w.heap.size w w1) := hb1
  have HE1 : Hid (Es.Ety w1) := hE.below hb1
  clear hb1
  rcases hc with ⟨hy, rfl⟩ | ⟨hy, s, rfl⟩
  · have HY : Hid (codeB l = true) := hy
    clear hy
    go_wp2_with (go_at_call 108; refine (Es.noCode_nil _).mono ?_; rintro e w2 ⟨rfl, hb2⟩; have HB2 : Hid (Below w.heap.size w w2) := HB1.out.trans (hb2.mono HB1.out.size); clear hb2)
    go_ret
    exact ⟨ret_bool HY.out.symm, HB2.out⟩
  · have HY : Hid (codeB l = false) := hy
    clear hy
    go_wp2_with (go_at_call 108; refine (Es.noCode_hit s _ HE1.out).mono ?_; rintro e w2 ⟨rfl, hb2⟩; have HB2 : Hid (Below w.heap.size w w2) := HB1.out.trans (hb2.mono HB1.out.size); clear hb2)
    go_ret
    exact ⟨ret_bool HY.out.symm, HB2.out⟩
end Go.Proofs.YtjibnlpjpbileaaGreatDoor.Code
namespace Go.Proofs.YtjibnlpjpbileaaGreatDoor.Code
open Go.RowKit
open Go.Proofs.YtjibnlpjpbileaaGreatDoor.Atom
set_option linter.unusedVariables false

/-- What is left of a purse behind a text of m bytes. -/
def leftS (left : Int) (m : Nat) : Int := if left < (m : Int) then -1 else left - m

theorem szIns_any (op a b c n : Int) (s : ByteArray) (left : Int) (w : World) (h0 : 0 ≤ left) (h1 : left ≤ 1048576) (hs : s.size ≤ maxLen) :
    Calls Tryz.prog 25 #[.agg #[.int .i64 op, .int .i64 a, .int .i64 b, .int .i64 c, .int .i64 n, .string s], .int .i64 left] w fun e w' => e = .returned (.int .i64 (leftS left s.size)) ∧ Below w.heap.size w w' := by
  have hbn := (Below.refl w.heap.size w).alloc (Nat.le_refl _) (.cells #[.int .i64 op, .int .i64 a, .int .i64 b, .int .i64 c, .int .i64 n, .string s] 57)
  unfold maxLen at hs
  by_cases hl : left < (s.size : Int)
  · have HI : Hid (leftS left s.size = -1) := if_pos hl
    have hl' : left - (s.size : Int) < 0 := by omega
    go_enter Tryz.func25, Tryz.ntmps25
    go_wp2
    go_ret
    exact ⟨by rw [HI.out]; rfl, hbn⟩
  · have HI : Hid (leftS left s.size = left - s.size) := if_neg hl
    have hl' : ¬ left - (s.size : Int) < 0 := by omega
    go_enter Tryz.func25, Tryz.ntmps25
    go_wp2
    go_ret
    exact ⟨by rw [HI.out]; rfl, hbn⟩

theorem res_ins {w : World} {R : Nat} {a b c d e f : Value} {tmps : Array Value} {fn : Func} {q : Nat} (hf : fn.results = #[.cell q 65]) (h : w.heap[R]? = some (.cells #[a, b, c, d, e, f] 65 (0, 0)))
    (h4 : tmps.getD q undef = .pointer (some ⟨R, 0, none⟩)) : (results fn tmps).run Tryz.prog w = .ok (.agg #[a, b, c, d, e, f]) w :=
  results_cell_row hf tmps w R 65 #[a, b, c, d, e, f] (0, 0) _ h4 h Tryz.underlying65 rfl (by kernel_rfl)

theorem toIns_any (op a b c n : Int) (s : ByteArray) (w : World) :
    Calls Tryz.prog 30 #[.agg #[.int .i64 op, .int .i64 a, .int .i64 b, .int .i64 c, .int .i64 n, .string s]] w fun e w' => e = .returned (.agg #[.int .i64 op, .int .i64 a, .int .i64 b, .int .i64 c, .int .i64 n, .string s]) ∧ Below w.heap.size w w' := by
  go_enter Tryz.func30, Tryz.ntmps30
  go_wp2
  refine bodyPost_ret (res_ins (R := w.heap.size + 1) (a := .int .i64 op) (b := .int .i64 a) (c := .int .i64 b) (d := .int .i64 c) (e := .int .i64 n) (f := .string s) Tryz.results30 ?_ rfl) rfl ⟨rfl, ?_⟩
  · rw [Below.heap_alloc _ _ _ (by simp)]
    show (Array.push _ _)[_]? = _
    rw [Array.getElem?_push, if_pos (by simp)]
  · exact (((Below.refl _ w).alloc (Nat.le_refl _) _).alloc (by simp) _).alloc (by simp; try omega) _
end Go.Proofs.YtjibnlpjpbileaaGreatDoor.Code
namespace Go.Proofs.YtjibnlpjpbileaaGreatDoor.Code
open Go.RowKit
open Go.Proofs.YtjibnlpjpbileaaGreatDoor.Atom
set_option linter.unusedVariables false

theorem eqIns_same (op a b c n : Int) (s : ByteArray) (w : World) :
    Calls Tryz.prog 39 #[.agg #[.int .i64 op, .int .i64 a, .int .i64 b, .int .i64 c, .int .i64 n, .string s], .agg #[.int .i64 op, .int .i64 a, .int .i64 b, .int .i64 c, .int .i64 n, .string s]] w fun e w' => e = .returned (.bool true) ∧ Below w.heap.size w w' := by
  go_enter Tryz.func39, Tryz.ntmps39
  go_wp2
  go_ret
  exact ⟨rfl, ((Below.refl _ w).alloc (Nat.le_refl _) _).alloc (by simp) _⟩

/-- The purse: what is left of it says that all was small. -/
theorem szInsS_le (l : List I) (ao : Option Addr) (cap : Nat) (w : World) (hr : RowI w ao l) (hs : SmI maxLen l) (hl : l.length ≤ maxLen) :
    Calls Tryz.prog 6 #[.slice ao l.length cap, .int .i64 1048576] w fun e w' => (∃ r : Int, e = .returned (.int .i64 r) ∧ r ≤ 1048576 ∧ (0 ≤ r → l.length ≤ 1048576 ∧ SmI 1048576 l)) ∧ Below w.heap.size w w' := by
  unfold maxLen at hl
  by_cases hbig : (1048576 : Int) - l.length < 0
  · go_enter Tryz.func6, Tryz.ntmps6
    go_wp2
    go_ret
    exact ⟨⟨-1, rfl, by decide, fun h => absurd h (by decide)⟩, Below.refl _ _⟩
  · have HL : Hid (l.length ≤ 1048576) := by show _ ≤ _; omega
    have HRW : Hid (RowI w ao l) := hr
    clear hr
    go_enter Tryz.func6, Tryz.ntmps6
    go_wp2_with fail
    go_loopw [1, 5] (fun v i wr => ∃ (k : Nat) (r : Int), k ≤ l.length ∧ i = .int .i64 k ∧ v = .int .i64 r ∧ 0 ≤ r ∧ r ≤ 1048576 ∧ SmI 1048576 (l.take k) ∧ Below w.heap.size w wr) (fun v i wr => l.length - (intOf i).toNat)
    case atStart => exact ⟨0, (1048576 : Int) - l.length, Nat.zero_le _, rfl, rfl, by omega, by omega, (by intro x hx; simp at hx), Below.refl _ _⟩
    case round =>
      obtain ⟨k, r, hk, rfl, rfl, hr0, hr1, hsm, hbr⟩ := hrel
      have HBR : Hid (Below w.heap.size w wr) := hbr
      have HSM : Hid (SmI 1048576 (l.take k)) := hsm
      clear hbr hsm
      by_cases hlt : k < l.length
      · rcases HRW.out with h | ⟨b, o, rfl, hrow⟩
        · rw [h] at hlt; simp at hlt
        have hbx := (hrow k hlt).below HBR.out
        have hsx := hs l[k] (List.getElem_mem hlt)
        have HTK : Hid ((l[k]).s.size ≤ 1048576 → SmI 1048576 (l.take (k + 1))) := fun h x hx => by
          rw [List.take_succ_eq_append_getElem hlt, List.mem_append] at hx
          rcases hx with hx | hx
          · exact HSM.out x hx
          · simp at hx; rw [hx]; exact h
        generalize l[k] = x at hbx hsx HTK
        obtain ⟨op, xa, xb, xc, xn, xs⟩ := x
        have d0 := hbx.c0
        have d1 := hbx.c1
        have d2 := hbx.c2
        have d3 := hbx.c3
        have d4 := hbx.c4
        have d5 := hbx.c5
        clear hbx hrow
        have hsx' : xs.size ≤ maxLen := hsx
        by_cases hq : r < (xs.size : Int)
        · have hL : leftS r xs.size = -1 := if_pos hq
          have HSZ : Hid (∀ w', Calls Tryz.prog 25 #[.agg #[.int .i64 op, .int .i64 xa, .int .i64 xb, .int .i64 xc, .int .i64 xn, .string xs], .int .i64 r] w' fun e w'' => e = .returned (.int .i64 (-1)) ∧ Below w'.heap.size w' w'') := fun w' => by
            have := szIns_any op xa xb xc xn xs r w' hr0 hr1 hsx'
            rw [hL] at this; exact this
          clear hL
          go_wp2_with (go_at_call 25; refine (HSZ.out _).mono ?_; rintro e w3 ⟨rfl, hb3⟩; have HB3 : Hid (Below w.heap.size w w3) := HBR.out.trans (hb3.mono HBR.out.size); clear hb3)
          go_ret
          exact ⟨⟨-1, rfl, by decide, fun h => absurd h (by decide)⟩, HB3.out⟩
        · have hL : leftS r xs.size = r - xs.size := if_neg hq
          obtain ⟨r', hr'⟩ : ∃ r', r' = r - (xs.size : Int) := ⟨_, rfl⟩
          have HSZ : Hid (∀ w', Calls Tryz.prog 25 #[.agg #[.int .i64 op, .int .i64 xa, .int .i64 xb, .int .i64 xc, .int .i64 xn, .string xs], .int .i64 r] w' fun e w'' => e = .returned (.int .i64 r') ∧ Below w'.heap.size w' w'') := fun w' => by
            have := szIns_any op xa xb xc xn xs r w' hr0 hr1 hsx'
            rw [hL, ← hr'] at this; exact this
          have h0' : 0 ≤ r' := by omega
          have h1' : r' ≤ 1048576 := by omega
          have HXS : Hid (xs.size ≤ 1048576) := by show _ ≤ _; omega
          clear hL hr' hq
          go_wp2_with (go_at_call 25; refine (HSZ.out _).mono ?_; rintro e w3 ⟨rfl, hb3⟩; have HB3 : Hid (Below w.heap.size w w3) := HBR.out.trans (hb3.mono HBR.out.size); clear hb3)
          go_roundw
          case rel => exact ⟨k + 1, r', by omega, by go_num, rfl, h0', h1', HTK.out HXS.out, HB3.out⟩
          case measure => simp [intOf]; omega
      · have HF : Hid (SmI 1048576 l) := by
          have := HSM.out
          rw [List.take_of_length_le (by omega)] at this; exact this
        go_wp2
        go_ret
        exact ⟨⟨r, rfl, hr1, fun _ => ⟨HL.out, HF.out⟩⟩, HBR.out⟩

theorem szInsS_any (l : List I) (ao : Option Addr) (cap : Nat) (w : World) (hr : RowI w ao l) (hs : SmI maxLen l) (hl : l.length ≤ maxLen) :
    Calls Tryz.prog 6 #[.slice ao l.length cap, .int .i64 1048576] w fun e w' => (∃ r : Int, e = .returned (.int .i64 r) ∧ (0 ≤ r → l.length ≤ 1048576 ∧ SmI 1048576 l)) ∧ Below w.heap.size w w' :=
  (szInsS_le l ao cap w hr hs hl).mono fun e w' ⟨⟨r, h1, _, h2⟩, hb⟩ => ⟨⟨r, h1, h2⟩, hb⟩

/-- A row that is being filled. -/
structure Made6 (w wr : World) (g : Nat) (l : List I) (k : Nat) : Prop where
  below : Below w.heap.size w wr
  lt : g < wr.heap.size
  some : ∀ j, j < l.length * 6 → (wr.cell? ⟨g, j, none⟩).isSome = true
  free : ∀ o, wr.frozen? ⟨g, o, none⟩ = false
  rep : ∀ i (hi : i < l.length), i < k → Bx6 wr g (i * 6) l[i]
theorem Made6.call {w wr w' : World} {g : Nat} {l : List I} {k : Nat} (h : Made6 w wr g l k) (hb : Below wr.heap.size wr w') : Made6 w w' g l k :=
  ⟨h.below.trans (hb.mono h.below.size), Nat.lt_of_lt_of_le h.lt hb.size, fun j hj => by rw [hb.cell (p := ⟨g, j, none⟩) h.lt]; exact h.some j hj,
    fun o => by rw [hb.frozen (p := ⟨g, o, none⟩) h.lt]; exact h.free o, fun i hi hik => (h.rep i hi hik).below hb⟩
theorem setCells_below {B : Nat} {b : Nat} (hB : B ≤ b) : ∀ (vs : List Value) (o : Nat) (a w : World), Below B a w → Below B a (w.setCells b o vs)
  | [], _, _, _, h => h
  | v :: r, o, a, w, h => by
    rw [World.setCells]
    exact setCells_below hB r (o + 1) a _ (h.setCell (p := ⟨b, o, none⟩) hB v)
theorem setCells_size (b : Nat) : ∀ (vs : List Value) (o : Nat) (w : World), (w.setCells b o vs).heap.size = w.heap.size
  | [], _, _ => rfl
  | v :: r, o, w => by rw [World.setCells, setCells_size b r]; simp [World.setCell]
def insL (x : I) : List Value := [.int .i64 x.op, .int .i64 x.a, .int .i64 x.b, .int .i64 x.c, .int .i64 x.n, .string x.s]
theorem Made6.store {w wr : World} {g : Nat} {l : List I} {k : Nat} (h : Made6 w wr g l k) (hg : w.heap.size ≤ g) (hk : k < l.length) : Made6 w (wr.setCells g (k * 6) (insL l[k])) g l (k + 1) := by
  have hin := World.cell?_setCells_in g (insL l[k]) (k * 6) wr (fun j hj => by
    have hj' : j < 6 := hj
    exact h.some (k * 6 + j) (by omega))
  have hout : ∀ i, (i < k * 6 ∨ k * 6 + 6 ≤ i) → (wr.setCells g (k * 6) (insL l[k])).cell? ⟨g, i, none⟩ = wr.cell? ⟨g, i, none⟩ := fun i hi =>
    World.cell?_setCells_out g (insL l[k]) (k * 6) wr ⟨g, i, none⟩ (fun _ _ => hi)
  refine ⟨setCells_below hg _ _ _ _ h.below, by rw [setCells_size]; exact h.lt, fun j hj => ?_, fun o => by rw [World.frozen?_setCells]; exact h.free o, fun i hi hik => ?_⟩
  · by_cases hj1 : j < k * 6 ∨ k * 6 + 6 ≤ j
    · rw [hout j hj1]; exact h.some j hj
    · obtain ⟨d, rfl⟩ : ∃ d, j = k * 6 + d := ⟨j - k * 6, by omega⟩
      rw [hin d (show d < 6 by omega)]; rfl
  · by_cases hlast : i = k
    · subst hlast
      exact ⟨hin 0 (show 0 < 6 by omega), hin 1 (show 1 < 6 by omega), hin 2 (show 2 < 6 by omega), hin 3 (show 3 < 6 by omega), hin 4 (show 4 < 6 by omega), hin 5 (show 5 < 6 by omega)⟩
    · have hx := h.rep i hi (by omega)
      exact ⟨(hout _ (.inl (by omega))).trans hx.c0, (hout _ (.inl (by omega))).trans hx.c1, (hout _ (.inl (by omega))).trans hx.c2, (hout _ (.inl (by omega))).trans hx.c3, (hout _ (.inl (by omega))).trans hx.c4, (hout _ (.inl (by omega))).trans hx.c5⟩

theorem infoIns : (Tryz.prog.info? 65).map (fun i => (i.zero, i.size, i.bytes)) = some (some (.agg #[.int .i64 0, .int .i64 0, .int .i64 0, .int .i64 0, .int .i64 0, .string ⟨#[]⟩]), 6, 56) := by kernel_rfl
theorem undInsS : Tryz.prog.underlying 28 = some (.slice 65) := by kernel_rfl
def zeros6 (n : Nat) : Array Value := madeCells #[.int .i64 0, .int .i64 0, .int .i64 0, .int .i64 0, .int .i64 0, .string ⟨#[]⟩] (n * 6)
theorem run_zeros6 (n : Nat) (hn : n ≤ 1048576) (w : World) :
    (Instr.makeSlice 28 (.int .i64 (n : Int)) (.int .i64 (n : Int))).run Tryz.prog w = .ok (.slice (some ⟨w.heap.size, 0, none⟩) n n) (w.alloc (.cells (zeros6 n) 65)) := by
  obtain ⟨i, hi, hzz⟩ := Option.map_eq_some_iff.1 infoIns
  simp only [Prod.mk.injEq] at hzz
  obtain ⟨hz, hs, hb⟩ := hzz
  have hr := run_make (P := Tryz.prog) w 28 65 i _ undInsS hi hz .i64 .i64 n n (by omega) (Int.le_refl _) (by rw [hb]; omega) (by omega)
  rw [hs] at hr
  simp only [Int.toNat_natCast] at hr
  exact hr
theorem made6_start (w : World) (l : List I) : Made6 w (w.alloc (.cells (zeros6 l.length) 65)) w.heap.size l 0 where
  below := (Below.refl _ _).alloc (Nat.le_refl _) _
  lt := by show w.heap.size < (w.heap.push _).size; simp
  some := fun j hj => by
    rw [World.cell?_alloc_new]
    have : j < (zeros6 l.length).size := by unfold zeros6; rw [size_madeCells]; exact hj
    simp [this]
  free := fun o => by simp
  rep := fun i _ h => absurd h (Nat.not_lt_zero _)

set_option maxHeartbeats 1000000 in
theorem toInsS_any (l : List I) (ao : Option Addr) (cap : Nat) (w : World) (hr : RowI w ao l) (hl : l.length ≤ 1048576) :
    Calls Tryz.prog 9 #[.slice ao l.length cap] w fun e w' => (∃ g : Nat, w.heap.size ≤ g ∧ e = .returned (.slice (some ⟨g, 0, none⟩) l.length l.length) ∧ RowI w' (some ⟨g, 0, none⟩) l) ∧ Below w.heap.size w w' := by
  have HRW : Hid (RowI w ao l) := hr
  clear hr
  have hmk := run_zeros6 l.length hl
  go_enter Tryz.func9, Tryz.ntmps9
  go_wp2_with fail
  clear hmk
  go_loopw [4] (fun i w' => ∃ k : Nat, k ≤ l.length ∧ i = .int .i64 k ∧ Made6 w w' w.heap.size l k) (fun i _ => l.length - (intOf i).toNat)
  case atStart => exact ⟨0, Nat.zero_le _, rfl, made6_start w l⟩
  case round =>
    obtain ⟨k, hk, rfl, hm⟩ := hrel
    have HM : Hid (Made6 w wr w.heap.size l k) := hm
    clear hm
    by_cases hlt : k < l.length
    · rcases HRW.out with h | ⟨b, o, rfl, hrow⟩
      · rw [h] at hlt; simp at hlt
      have hbx := (hrow k hlt).below HM.out.below
      have HST : Hid (∀ w1, Made6 w w1 w.heap.size l k → Made6 w (w1.setCells w.heap.size (k * 6) (insL l[k])) w.heap.size l (k + 1)) := fun w1 h1 => h1.store (Nat.le_refl _) hlt
      generalize l[k] = x at hbx HST
      obtain ⟨op, xa, xb, xc, xn, xs⟩ := x
      have d0 := hbx.c0
      have d1 := hbx.c1
      have d2 := hbx.c2
      have d3 := hbx.c3
      have d4 := hbx.c4
      have d5 := hbx.c5
      clear hbx hrow
      go_wp2_with fail
      refine (toIns_any op xa xb xc xn xs _).mono ?_
      rintro e w1 ⟨rfl, hb1⟩
      have HM1 : Hid (Made6 w w1 w.heap.size l k) := HM.out.call hb1
      have hf := HM1.out.free
      obtain ⟨x0, hs0⟩ := Option.isSome_iff_exists.1 (HM1.out.some (k * 6) (by omega))
      obtain ⟨x1, hs1⟩ := Option.isSome_iff_exists.1 (HM1.out.some (k * 6 + 1) (by omega))
      obtain ⟨x2, hs2⟩ := Option.isSome_iff_exists.1 (HM1.out.some (k * 6 + 2) (by omega))
      obtain ⟨x3, hs3⟩ := Option.isSome_iff_exists.1 (HM1.out.some (k * 6 + 3) (by omega))
      obtain ⟨x4, hs4⟩ := Option.isSome_iff_exists.1 (HM1.out.some (k * 6 + 4) (by omega))
      obtain ⟨x5, hs5⟩ := Option.isSome_iff_exists.1 (HM1.out.some (k * 6 + 5) (by omega))
      clear hb1 d0 d1 d2 d3 d4 d5
      go_wp2_with fail
      have HM2 := HST.out w1 HM1.out
      go_roundw
      case rel => exact ⟨k + 1, by omega, by go_num, HM2⟩
      case measure => simp [intOf]; omega
    · go_wp2_with fail
      go_ret
      have hkl : k = l.length := by omega
      subst hkl
      have hm := HM.out
      exact ⟨⟨w.heap.size, Nat.le_refl _, rfl, .inr ⟨w.heap.size, 0, rfl, fun j hj => by rw [Nat.zero_add]; exact hm.rep j hj hj⟩⟩, hm.below⟩

set_option maxHeartbeats 1000000 in
theorem eqInsS_same (l : List I) (ao bo : Option Addr) (cap cap' : Nat) (w : World) (hr : RowI w ao l) (hr' : RowI w bo l) (hl : l.length ≤ 1048576) :
    Calls Tryz.prog 13 #[.slice ao l.length cap, .slice bo l.length cap'] w fun e w' => e = .returned (.bool true) ∧ Below w.heap.size w w' := by
  have HRA : Hid (RowI w ao l) := hr
  have HRB : Hid (RowI w bo l) := hr'
  clear hr hr'
  go_enter Tryz.func13, Tryz.ntmps13
  go_wp2_with fail
  go_loopw [5] (fun i w' => ∃ k : Nat, k ≤ l.length ∧ i = .int .i64 k ∧ Below w.heap.size w w') (fun i _ => l.length - (intOf i).toNat)
  case atStart => exact ⟨0, Nat.zero_le _, rfl, Below.refl _ _⟩
  case round =>
    obtain ⟨k, hk, rfl, hbr⟩ := hrel
    have HBR : Hid (Below w.heap.size w wr) := hbr
    clear hbr
    by_cases hlt : k < l.length
    · rcases HRA.out with h | ⟨b, o, rfl, hrow⟩
      · rw [h] at hlt; simp at hlt
      rcases HRB.out with h | ⟨b', o', rfl, hrow'⟩
      · rw [h] at hlt; simp at hlt
      have hbx := (hrow k hlt).below HBR.out
      have hby := (hrow' k hlt).below HBR.out
      generalize l[k] = x at hbx hby
      obtain ⟨op, xa, xb, xc, xn, xs⟩ := x
      have d0 := Inn.keep hbx.c0
      have d1 := Inn.keep hbx.c1
      have d2 := Inn.keep hbx.c2
      have d3 := Inn.keep hbx.c3
      have d4 := Inn.keep hbx.c4
      have d5 := Inn.keep hbx.c5
      have f0 := Inn.keep hby.c0
      have f1 := Inn.keep hby.c1
      have f2 := Inn.keep hby.c2
      have f3 := Inn.keep hby.c3
      have f4 := Inn.keep hby.c4
      have f5 := Inn.keep hby.c5
      clear hbx hrow hby hrow'
      haveI := inn_ne wr
      go_wp2_with fail
      refine wp_region_inn ?_ ?_ ?_
      · kernel_rfl
      · kernel_rfl
      repeat (go_big_quiet_step (first
        | (go_at_call 39; exact calls_inn (eqIns_same _ _ _ _ _ _ _))))
      refine wpQuiet_nil ?_
      rintro w7 ⟨x7, h7⟩
      have HB7 : Hid (Below w.heap.size w w7) := by
        have : Below wr.heap.size wr w7 := by rw [h7]; exact x7.bel
        exact HBR.out.trans (this.mono HBR.out.size)
      clear h7 x7 d0 d1 d2 d3 d4 d5 f0 f1 f2 f3 f4 f5
      go_wp2_with fail
      go_roundw
      case rel => exact ⟨k + 1, by omega, by go_num, HB7.out⟩
      case measure => simp [intOf]; omega
    · go_wp2_with fail
      go_ret
      exact ⟨rfl, HBR.out⟩
end Go.Proofs.YtjibnlpjpbileaaGreatDoor.Code
