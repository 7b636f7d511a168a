/-
  Code as bytes: what is put of it. Reckoning.
-/
import Derived.Test.YtpjhipekjilejaaDoorByD
import Derived.Test.YtpjhipekjilejaaDoorCkA
import Derived.Lib.AppendStr
import Derived.Deep.RegionLaw
namespace Go.Proofs.YtpjhipekjilejaaDoor.Cb
open Go.RowKit
open Go.Proofs.YtpjhipekjilejaaDoor.By
open Go.Proofs.YtpjhipekjilejaaDoor.Code (I codeB specOk RowI SmI Bx6)
set_option linter.unusedVariables false

def sB (s : ByteArray) : List UInt8 := s.data.toList
theorem sB_len (s : ByteArray) : (sB s).length = s.size := by unfold sB; rw [Array.length_toList]; rfl
theorem sB_cells (s : ByteArray) : bcs (sB s) = s.data.toList.map fun b => Value.int .u8 ((b.toNat : Nat) : Int) := rfl
/-- The bytes of an instruction. -/
def insB (x : I) : List UInt8 := numsB [x.op, x.a, x.b, x.c, x.n, ((x.s.size : Nat) : Int)] ++ sB x.s
def insBs (l : List I) : List UInt8 := (l.map insB).flatten
/-- The bytes of code. -/
def codeBy (l : List I) : List UInt8 := numB ((l.length : Nat) : Int) ++ insBs l
def putC (l : List I) : List UInt8 := if codeB l = true then codeBy l else []
theorem putC_yes {l : List I} (h : codeB l = true) : putC l = codeBy l := if_pos h
theorem putC_no {l : List I} (h : codeB l = false) : putC l = [] := if_neg (by rw [h]; decide)

theorem s_small {x : I} {N : Int} (h : specOk x N = true) : x.s.size ≤ 12 := by
  unfold Code.specOk at h
  simp only [Bool.and_eq_true] at h
  have h6 := h.2.2.2.2.2.1
  by_cases ho : x.op = 2
  · rw [if_pos ho] at h6
    unfold Atom.atomB at h6
    simp only [Bool.and_eq_true] at h6
    exact (of_decide_eq_true h6.2).2
  · rw [if_neg ho] at h6
    have : (sB x.s).length = 0 := by rw [List.isEmpty_iff.1 h6 |> (fun e => show sB x.s = [] from e)]; rfl
    rw [sB_len] at this
    omega
theorem codeB_all {l : List I} (h : codeB l = true) : ∀ x ∈ l, specOk x l.length = true := by
  unfold Code.codeB at h
  simp only [Bool.and_eq_true] at h
  exact fun x hx => List.all_eq_true.1 h.2.2 x hx
theorem codeB_len {l : List I} (h : codeB l = true) : 1 ≤ l.length ∧ l.length ≤ 200 := by
  unfold Code.codeB at h
  simp only [Bool.and_eq_true] at h
  exact of_decide_eq_true h.1
theorem code_small {l : List I} (h : codeB l = true) : ∀ x ∈ l, x.s.size ≤ 12 := fun x hx => s_small (codeB_all h x hx)
theorem insB_len {x : I} (h : x.s.size ≤ 12) : (insB x).length ≤ 36 := by
  have := numsB_len [x.op, x.a, x.b, x.c, x.n, ((x.s.size : Nat) : Int)]
  unfold insB
  rw [List.length_append, sB_len]
  simp at this
  omega
theorem insBs_len : ∀ (l : List I), (∀ x ∈ l, x.s.size ≤ 12) → (insBs l).length ≤ 36 * l.length
  | [], _ => by simp [insBs]
  | x :: l, h => by
    have h1 := insB_len (h x (List.mem_cons_self ..))
    have h2 := insBs_len l (fun y hy => h y (List.mem_cons_of_mem _ hy))
    have e : insBs (x :: l) = insB x ++ insBs l := rfl
    rw [e, List.length_append, List.length_cons]; omega
theorem codeBy_len {l : List I} (h : codeB l = true) : (codeBy l).length ≤ 7204 := by
  have h1 := num_len ((l.length : Nat) : Int)
  have h2 := insBs_len l (code_small h)
  have h3 := codeB_len h
  unfold codeBy
  rw [List.length_append]; omega
theorem putC_len (l : List I) : (putC l).length ≤ 7204 := by
  cases h : codeB l with
  | true => rw [putC_yes h]; exact codeBy_len h
  | false => rw [putC_no h]; simp
theorem ins_next {l : List I} {k : Nat} (h : k < l.length) : insBs (l.drop k) = insB l[k] ++ insBs (l.drop (k + 1)) := by
  rw [List.drop_eq_getElem_cons h]; rfl
theorem ins_end (l : List I) : insBs (l.drop l.length) = [] := by rw [List.drop_length]; rfl
theorem ins_parts (x : I) (K R : List UInt8) : K ++ (insB x ++ R) = (((((((K ++ numB x.op) ++ numB x.a) ++ numB x.b) ++ numB x.c) ++ numB x.n) ++ numB ((x.s.size : Nat) : Int)) ++ sB x.s) ++ R := by
  simp [insB, numsB, List.append_assoc]
theorem owB_str {w : World} {base : Nat} {v : Value} {L : List UInt8} {s : ByteArray} {n : Nat} (h : w.ownsRow base 5 1 v n (bcs L ++ (s.data.toList.map fun b => Value.int .u8 b.toNat))) (hn : n = L.length + s.size) : OwB w base v (L ++ sB s) :=
  owB_more (M := sB s) h (by rw [sB_len]; exact hn)
theorem owB_base {w : World} {b b' : Nat} {v : Value} {L : List UInt8} (h : OwB w b v L) (hb : b' ≤ b) : OwB w b' v L := by
  refine ⟨h.1, ?_⟩
  rcases h.2 with h | ⟨g, c, cur, e, hg, rest⟩
  · exact .inl h
  · exact .inr ⟨g, c, cur, e, Nat.le_trans hb hg, rest⟩

/-- An append of a string's bytes in a region that draws. -/
theorem step_append_str {P : Program} {w : World} {ops : Array Oper} {o : Oper} {a : Act} {K : Act → World → Prop} {Q : Exit → Act → World → Prop} {E : Prop} (hgd : o.guard = none) (sl x : Operand) (t u : TypeId)
    (ho : o.op = .call { callee := .builtin .append, args := #[sl, x], argTypes := #[t, u] })
    (base : Nat) (e : TypeId) (i : TypeInfo) (ht : P.underlying t = some (.slice e)) (hu : P.underlying u = some .string) (hi : P.info? e = some i) (hz : i.zero = some (.int .u8 0))
    (hsize : i.size = 1) (hby : i.bytes = 1)
    (v : Value) (n : Nat) (xs : List Value) (hs : a.eval sl = v) (hown : w.ownsRow base e 1 v n xs) (s : ByteArray) (hx : a.eval x = .string s)
    (h63 : n + s.size ≤ maxLen) (hbytes : n + s.size ≤ 140737488355328) (hbase : base ≤ w.heap.size)
    (h : ∀ v' w', w'.ownsRow base e 1 v' (n + s.size) (xs ++ Lib.strCells s) → w.grownBy w' v.ownBlock → (v' = .slice none 0 0 ↔ v = .slice none 0 0 ∧ s.size = 0) → K (a.put o.dst v') w') :
    if Region.wanted o (yielded ops a.tmps) = true then Oper.wp P o a w K Q else E := by
  have hw : Region.wanted o (yielded ops a.tmps) = true := by simp [Region.wanted, hgd]
  rw [if_pos hw]
  obtain ⟨v', w', hr, h2, h3, h4⟩ := Lib.run_append_own_string (P := P) w base t u o.type e i ht hu hi hz hsize hby v n xs hown s h63 hbytes hbase
  unfold Oper.wp execOp
  simp only [ho, resolve, invoke, builtin, Sem.run_bind, Sem.run_pure, Result.andThen_ok, List.map_toArray, List.map_cons, List.map_nil, hs, hx, hr]
  exact h v' w' h2 h3 h4
end Go.Proofs.YtpjhipekjilejaaDoor.Cb
