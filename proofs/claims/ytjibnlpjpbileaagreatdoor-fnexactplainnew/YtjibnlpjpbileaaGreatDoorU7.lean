/-
  The program's PlainOk: it answers plB.
  (Ahead of it, in this text: The first actor of a crowd. The Pids of a crowd, in their order. A crowd as a system again. Code in memory of its own: the program's.)
-/
import Derived.Test.YtjibnlpjpbileaaGreatDoorU6
import Derived.Test.YtjibnlpjpbileaaGreatDoorShelh
import Derived.Test.YtjibnlpjpbileaaGreatDoorPlA
import Derived.Test.YtjibnlpjpbileaaGreatDoorU4
import Derived.Test.YtjibnlpjpbileaaGreatDoorU1
import Derived.Test.YtjibnlpjpbileaaGreatDoorU2
import Derived.Test.YtjibnlpjpbileaaGreatDoorU3
namespace Go.Proofs.YtjibnlpjpbileaaGreatDoor
open Go.RowKit Atom
open Go.Proofs.YtjibnlpjpbileaaGreatDoor.Code
set_option linter.unusedVariables false

theorem len_int {w : World} {mb : Nat} {es : List (Int × Value)} (h : ImMap w mb es) (ty : TypeId) : ∀ w' : World, w'.heap[mb]? = w.heap[mb]? → (Builtin.len_ #[101] ty #[.map (some mb)]).run Tryz.prog w' = .ok (.int .i64 es.length) w' := by
  obtain ⟨arr, clk, hm, he, _⟩ := h
  intro w' hw
  have hm' : w'.heap[mb]? = some (.map arr clk) := hw.trans hm
  have hl : arr.size = es.length := by
    have := congrArg List.length he
    simpa using this
  simp [Builtin.len_, run_underlying und_mapA, MapKept.run_getObj_map hm', goInt, Result.andThen, hl]
def newA (t : Tm) : Ac := ⟨nwI 1 0 t 1, nwI 1 0 t 0, nwR 1 0 t, [], 0, fun _ => 0⟩
def newW (ra : Option Addr) (rc : Nat) : Wh := ⟨ra, rc, none, 0, none, 0⟩
/-- What is left of it: the actor, and what was said of it, in blocks of their own. -/
def StartP (C mb : Nat) (cv : Value) (t : Tm) (w w' : World) : Prop := ∃ (ra : Option Addr) (rc g cap : Nat) (a b : Int) (s : ByteArray) (d : Option Addr) (ln cp : Nat) (b1 b2 : List Nat), Crw w' C mb cv 2 (.slice (some ⟨g, 0, none⟩) 1 cap) [(1, acV (newA t) (newW ra rc))] ∧
  OsL w' (nwR 1 0 t) b1 ra ∧ (nwR 1 0 t).length ≤ rc ∧ rc ≤ maxLen ∧ w'.ownsRow w.heap.size 96 6 (.slice (some ⟨g, 0, none⟩) 1 cap) 1 [.int .i64 1, .int .i64 1, .int .i64 a, .int .i64 b, .string s, .slice d ln cp] ∧ OsV w' b2 t (.agg #[.int .i64 a, .int .i64 b, .string s, .slice d ln cp]) ∧ (b1 ++ (g :: b2)).Nodup ∧ (∀ x ∈ b1 ++ (g :: b2), w.heap.size ≤ x) ∧
  w'.os = w.os ∧ w'.tape = w.tape ∧ w'.output = w.output ∧ w.heap.size ≤ w'.heap.size ∧ ∀ x, x < w.heap.size → x ≠ C → x ≠ mb → w'.heap[x]? = w.heap[x]?

/-- All is as it was, but for the crowd's map. -/
theorem start_mid {C mb : Nat} {cv : Value} {t : Tm} {bs b1 : List Nat} {v a0 : Value} {w w1 w2 w3 w4 : World} {ra : Option Addr} (hz : w1.heap.size = w.heap.size + 1) (hCl : C < w.heap.size) (hml : mb < w.heap.size) (hb2 : Below w1.heap.size w1 w2) (hb3 : Below w2.heap.size w2 w3) (ht4 : Turn mb w3 w4) (hm4 : ImMap w4 mb [(1, a0)])
    (h1 : Crw w1 C mb cv 2 (.slice none 0 0) []) (hv : OsV w1 bs t v) (hbl : ∀ x ∈ bs, x < w.heap.size) (hbm : mb ∉ bs) (hn3 : OsL w3 (nwR 1 0 t) b1 ra) (hn5 : ∀ b ∈ b1, w2.heap.size ≤ b) :
    Crw w4 C mb cv 2 (.slice none 0 0) [(1, a0)] ∧ OsV w4 bs t v ∧ OsL w4 (nwR 1 0 t) b1 ra ∧ (∀ x, w4.cell? ⟨w.heap.size, x, none⟩ = w1.cell? ⟨w.heap.size, x, none⟩) ∧ w1.heap.size ≤ w4.heap.size ∧ (∀ x ∈ b1, w1.heap.size ≤ x) ∧ (∀ x ∈ b1, x < w4.heap.size) ∧ (∀ x, x < w1.heap.size → x ≠ mb → w4.heap[x]? = w1.heap[x]?) ∧ w4.os = w1.os ∧ w4.tape = w1.tape ∧ w4.output = w1.output := by
  have hz2 := hb2.size
  have hz3 := hb3.size
  have hz4 := ht4.size
  have hblk : ∀ x, x < w1.heap.size → x ≠ mb → w4.heap[x]? = w1.heap[x]? := fun x hx hne => by
    rw [ht4.block x (by omega) hne, hb3.block x (by omega), hb2.block x hx]
  have kC := hblk C (by omega) h1.ne
  have hlt1 : ∀ x ∈ b1, x < w3.heap.size := fun x hx => OsL.lt _ _ _ hn3 x hx
  refine ⟨⟨(World.cell?_of_block (w := w1) kC).trans h1.c0, (World.cell?_of_block (w := w1) kC).trans h1.c1, (World.cell?_of_block (w := w1) kC).trans h1.c2, (World.cell?_of_block (w := w1) kC).trans h1.c3, fun x => (World.frozen?_of_block (w := w1) kC).trans (h1.fz x), hm4, h1.ne⟩, hv.keep (fun x hx _ => hblk x (by have := hbl x hx; omega) (fun q => hbm (by rw [← q]; exact hx))), OsL.keep _ _ _ (fun x hx _ => ht4.block x (hlt1 x hx) (fun q => by have := hn5 x hx; omega)) hn3, fun x => World.cell?_of_block (w := w1) (hblk w.heap.size (by omega) (by omega)), by omega, fun x hx => by have := hn5 x hx; omega, fun x hx => by have := hlt1 x hx; omega, hblk, ht4.os.trans (hb3.os.trans hb2.os), ht4.tape.trans (hb3.tape.trans hb2.tape), ht4.output.trans (hb3.output.trans hb2.output)⟩
theorem start_done {C mb : Nat} {cv : Value} {t : Tm} {b1 : List Nat} {w w1 w4 w5 : World} {ra : Option Addr} {rc : Nat} (hz : w1.heap.size = w.heap.size + 1) (hCl : C < w.heap.size) (hml : mb < w.heap.size) (hk1 : ∀ x, x < w.heap.size → x ≠ C → w1.heap[x]? = w.heap[x]?) (ho1 : w1.os = w.os) (hp1 : w1.tape = w.tape) (hu1 : w1.output = w.output)
    (hn3 : OsL w4 (nwR 1 0 t) b1 ra) (hn1 : (nwR 1 0 t).length ≤ rc) (hn2 : rc ≤ maxLen) (hn4 : b1.Nodup) (hz4 : w1.heap.size ≤ w4.heap.size) (hn5 : ∀ x ∈ b1, w1.heap.size ≤ x) (hl4 : ∀ x ∈ b1, x < w4.heap.size) (hk4 : ∀ x, x < w1.heap.size → x ≠ mb → w4.heap[x]? = w1.heap[x]?) (ho4 : w4.os = w1.os) (hp4 : w4.tape = w1.tape) (hu4 : w4.output = w1.output)
    (hs : SayP C mb cv 2 (.slice none 0 0) 0 [(1, acV (newA t) (newW ra rc))] 1 1 t w.heap.size [] w4 w5) : StartP C mb cv t w w5 := by
  obtain ⟨g, cap, a, b, s, d, ln, cp, bs', s1, s2, s3, s4, s5, s6, s7, s8⟩ := hs
  have hg : w4.heap.size ≤ g := by
    rcases s7 with h | h
    · exact absurd h (by simp [Value.ownBlock])
    · exact h
  have hzz := s8.size
  refine ⟨ra, rc, g, cap, a, b, s, d, ln, cp, b1, bs', s1, OsL.keep _ _ _ (fun x hx _ => s8.block x (hl4 x hx) (fun q => by have := hn5 x hx; omega) (by simp [Value.ownBlock])) hn3, hn1, hn2, by simpa using s2, s3, ?_, ?_, s8.os.trans (ho4.trans ho1), s8.tape.trans (hp4.trans hp1), s8.output.trans (hu4.trans hu1), by omega, fun x hx h1 h2 => ?_⟩
  · refine List.nodup_append.2 ⟨hn4, List.nodup_cons.2 ⟨s6, s4⟩, fun x hx y hy e => ?_⟩
    have h1 := hl4 x hx
    rcases List.mem_cons.1 hy with e2 | e2
    · omega
    · have := s5 y e2; omega
  · intro x hx
    rcases List.mem_append.1 hx with e | e
    · have := hn5 x e; omega
    · rcases List.mem_cons.1 e with e2 | e2
      · omega
      · have := s5 x e2; omega
  · rw [s8.block x (by omega) h1 (by simp [Value.ownBlock]), hk4 x (by omega) h2, hk1 x hx h1]

set_option maxHeartbeats 4000000 in
set_option maxRecDepth 100000 in
theorem start0_any (C mb : Nat) (cv : Value) (t : Tm) (bs : List Nat) (v : Value) (w : World) (h : Crw w C mb cv 1 (.slice none 0 0) []) (hv : OsV w bs t v) (hnd : bs.Nodup) (hnt : ntL [t] ≤ 4194304) (hbC : C ∉ bs) (hbM : mb ∉ bs) :
    Calls Tryz.prog 34 #[.pointer (some ⟨C, 0, none⟩), .int .i64 0, v] w fun e w' => e = .returned (.bool true) ∧ StartP C mb cv t w w' := by
  obtain ⟨va, vb, vc, vd, ve, vf, rfl⟩ := hv.form
  have hbl : ∀ x ∈ bs, x < w.heap.size := by
    obtain ⟨k, m, s, l⟩ := t
    obtain ⟨ao, cap, e, _, _, _, h4⟩ := hv
    exact OsL.lt _ _ _ h4
  obtain ⟨w0, hw0⟩ : ∃ w0, w0 = w.alloc (.cells #[.int .i64 va, .int .i64 vb, .string vc, .slice vd ve vf] 38) := ⟨_, rfl⟩
  have hb0 : Below w.heap.size w w0 := by rw [hw0]; exact (Below.refl _ _).alloc (Nat.le_refl _) _
  have hz0 : w0.heap.size = w.heap.size + 1 := by rw [hw0]; simp
  have h0 := h.below hb0
  obtain ⟨w1, hw1⟩ : ∃ w1, w1 = w0.setCell ⟨C, 2, none⟩ (.int .i64 2) := ⟨_, rfl⟩
  have h1 : Crw w1 C mb cv 2 (.slice none 0 0) [] := by rw [hw1]; exact h0.set2 2
  have hz1 : w1.heap.size = w.heap.size + 1 := by rw [hw1, World.size_setCell, hz0]
  have hCl := h.lt
  have hblk1 : ∀ x, x ≠ C → w1.heap[x]? = w0.heap[x]? := fun x hx => by rw [hw1]; exact Below.heap_setCell _ ⟨C, 2, none⟩ _ x hx
  have q1 : ∀ x, w1.cell? ⟨w.heap.size, x, none⟩ = (#[.int .i64 va, .int .i64 vb, .string vc, .slice vd ve vf] : Array Value)[x]? := fun x => by
    rw [World.cell?_of_block (w := w0) (hblk1 w.heap.size (by omega)), hw0, World.cell?_alloc_new]
  have hv1 : OsV w1 bs t (.agg #[.int .i64 va, .int .i64 vb, .string vc, .slice vd ve vf]) := (hv.below hb0).keep (fun x hx _ => hblk1 x (fun q => hbC (by rw [← q]; exact hx)))
  have HV1 : Hid (OsV w1 bs t (.agg #[.int .i64 va, .int .i64 vb, .string vc, .slice vd ve vf]) ∧ bs.Nodup ∧ ntL [t] ≤ 4194304 ∧ (∀ x ∈ bs, x < w.heap.size) ∧ mb ∉ bs) := ⟨hv1, hnd, hnt, hbl, hbM⟩
  have H1 : Hid (Crw w1 C mb cv 2 (.slice none 0 0) []) := h1
  have HQ1 : Hid (∀ wc, Below w1.heap.size w1 wc → ∀ x, wc.cell? ⟨w.heap.size, x, none⟩ = (#[.int .i64 va, .int .i64 vb, .string vc, .slice vd ve vf] : Array Value)[x]?) := fun wc hb x => by rw [hb.cell (p := ⟨w.heap.size, x, none⟩) (by show w.heap.size < _; omega)]; exact q1 x
  have HZ : Hid (w1.heap.size = w.heap.size + 1 ∧ C < w.heap.size ∧ mb < w.heap.size ∧ (∀ x, x < w.heap.size → x ≠ C → w1.heap[x]? = w.heap[x]?) ∧ w1.os = w.os ∧ w1.tape = w.tape ∧ w1.output = w.output) := ⟨hz1, hCl, h.mp.lt, fun x hx hne => (hblk1 x hne).trans (hb0.block x hx), by rw [hw1, hw0]; rfl, by rw [hw1, hw0]; rfl, by rw [hw1, hw0]; rfl⟩
  have c2 := h0.c2
  have c1 := h0.c1
  have fz := h0.fz
  have hlen := len_int h0.mp
  have hle : ∀ ty, (Builtin.len_ #[101] ty #[.map (some mb)]).run Tryz.prog w0 = .ok (.int .i64 0) w0 := fun ty => hlen ty w0 rfl
  rw [hw0] at c1 c2 fz hle
  have HW1 : Hid ((w.alloc (.cells #[.int .i64 va, .int .i64 vb, .string vc, .slice vd ve vf] 38)).setCell ⟨C, 2, none⟩ (.int .i64 2) = w1) := by rw [hw1, hw0]; exact rfl
  clear h hv hnd hnt hbC hbM hbl hb0 hz0 h0 h1 hz1 hCl hblk1 q1 hv1 hlen hw0 hw1
  go_enter Tryz.func34, Tryz.ntmps34
  go_wp2_with (go_at_call 70; fail)
  rw [HW1.out]
  clear c1 c2 fz hle HW1
  refine (unlink0_any C mb cv 2 (.slice none 0 0) 1 w1 H1.out).mono ?_
  rintro e w2 ⟨rfl, hb2⟩
  have HB2 : Hid (Below w1.heap.size w1 w2) := hb2
  have H2 : Hid (Crw w2.drew C mb cv 2 (.slice none 0 0) []) := (H1.out.below hb2).below ((Below.refl _ _).drew)
  have KN : Hid (Calls Tryz.prog 71 #[.int .i64 1, .int .i64 0, .agg #[.int .i64 va, .int .i64 vb, .string vc, .slice vd ve vf]] w2.drew fun e w' => ∃ ra rc bs', e = .returned (.agg #[.int .i64 (nwI 1 0 t 1), .int .i64 (nwI 1 0 t 0), .slice ra (nwR 1 0 t).length rc, .slice none 0 0, .slice none 0 0]) ∧ (nwR 1 0 t).length ≤ rc ∧ rc ≤ maxLen ∧ OsL w' (nwR 1 0 t) bs' ra ∧ bs'.Nodup ∧ (∀ b ∈ bs', w2.drew.heap.size ≤ b) ∧ Below w2.drew.heap.size w2.drew w') :=
    implNew_any 1 0 t bs _ w2.drew ((HV1.out.1.below hb2).below ((Below.refl _ _).drew)) HV1.out.2.1 HV1.out.2.2.1
  have q2 := HQ1.out w2 hb2
  have k1 := (H1.out.below hb2).c1
  clear hb2
  have e0 : w2.cell? ⟨w.heap.size, 0, none⟩ = some (.int .i64 va) := q2 0
  have e1 : w2.cell? ⟨w.heap.size, 1, none⟩ = some (.int .i64 vb) := q2 1
  have e2 : w2.cell? ⟨w.heap.size, 2, none⟩ = some (.string vc) := q2 2
  have e3 : w2.cell? ⟨w.heap.size, 3, none⟩ = some (.slice vd ve vf) := q2 3
  clear q2
  go_wp2_with fail
  go_region_with (go_at_call 71; refine KN.out.mono ?_; rintro e w3 ⟨ra, rc, b1, rfl, hn1, hn2, hn3, hn4, hn5, hb3⟩; have h3 := H2.out.below hb3; have k3 := h3.c1; obtain ⟨w4, hup, ht4, hm4⟩ := add_int h3.mp und_mapA 1 (.agg #[.int .i64 (nwI 1 0 t 1), .int .i64 (nwI 1 0 t 0), .slice ra (nwR 1 0 t).length rc, .slice none 0 0, .slice none 0 0]) (fun x hx => by cases hx))
  all_goals
    have hmid := start_mid HZ.out.1 HZ.out.2.1 HZ.out.2.2.1 HB2.out (bundrewZ hb3) ht4 hm4 H1.out HV1.out.1 HV1.out.2.2.2.1 HV1.out.2.2.2.2 hn3 hn5
    obtain ⟨m1, m2, m3, m4, m5, m6, m7, m8, m9, mA, mB⟩ := hmid
    have q4 : ∀ x, w4.cell? ⟨w.heap.size, x, none⟩ = (#[.int .i64 va, .int .i64 vb, .string vc, .slice vd ve vf] : Array Value)[x]? := fun x => (m4 x).trans (HQ1.out w1 (Below.refl _ _) x)
    have HS : Hid (Calls Tryz.prog 72 #[.pointer (some ⟨C, 0, none⟩), .int .i64 1, .int .i64 1, .agg #[.int .i64 va, .int .i64 vb, .string vc, .slice vd ve vf]] w4 fun e w' => e = .returned (.tuple #[]) ∧ StartP C mb cv t w w') :=
      (say_any C mb cv 2 none 0 0 _ 1 1 t bs _ w.heap.size [] w4 m1 (World.ownsRow_nil _ _ _ _) (by omega) (by have := HZ.out.1; omega) (by simp [Value.ownBlock]) (by simp [Value.ownBlock]) m2 HV1.out.2.1 HV1.out.2.2.1).mono (by
        rintro e w5 ⟨rfl, hs⟩
        exact ⟨rfl, start_done HZ.out.1 HZ.out.2.1 HZ.out.2.2.1 HZ.out.2.2.2.1 HZ.out.2.2.2.2.1 HZ.out.2.2.2.2.2.1 HZ.out.2.2.2.2.2.2 m3 hn1 hn2 hn4 m5 m6 m7 m8 m9 mA mB hs⟩)
    have f0 : w4.cell? ⟨w.heap.size, 0, none⟩ = some (.int .i64 va) := q4 0
    have f1 : w4.cell? ⟨w.heap.size, 1, none⟩ = some (.int .i64 vb) := q4 1
    have f2 : w4.cell? ⟨w.heap.size, 2, none⟩ = some (.string vc) := q4 2
    have f3 : w4.cell? ⟨w.heap.size, 3, none⟩ = some (.slice vd ve vf) := q4 3
    clear m1 m2 m3 m4 m5 m6 m7 m8 m9 mA mB q4 hn1 hn2 hn3 hn4 hn5 hb3 h3 k3 hup ht4 hm4 e0 e1 e2 e3 k1
    go_wp2_with (go_at_call 72; fail)
    refine HS.out.mono ?_
    rintro e w5 ⟨rfl, hs⟩
    have HF : Hid (StartP C mb cv t w w5) := hs
    clear hs
    go_wp2_with fail
    go_ret
    exact ⟨rfl, HF.out⟩
end Go.Proofs.YtjibnlpjpbileaaGreatDoor
namespace Go.Proofs.YtjibnlpjpbileaaGreatDoor
open Go.RowKit Atom Go.Maps Go.Sort Go.Shelf
open Go.Proofs.YtjibnlpjpbileaaGreatDoor.Code
open Go.WideElems (Fit rg)
set_option linter.unusedVariables false

def noR : Value → Option (DataW Nat × List MemPlace) := fun _ => some (.nil, [])
theorem rd_no {x : MapEntry} {p : Int} (hx : x.key = .int .i64 p) (hw : (Lit.int .i64 p).wf = true) : Go.WideElems.rd Tryz.prog 3 noR x = some (.int .i64 p, .nil) := by
  unfold Go.WideElems.rd
  rw [hx, keyOf_int_mk Tryz.underlying3 hw]
  rfl
/-- A map that is kept by numbers, as the library sees it. -/
theorem ImMap.owns {w : World} {mb : Nat} {es : List (Int × Value)} (h : ImMap w mb es) (hl : es.length ≤ maxLen) (hw : ∀ x ∈ es, (Lit.int .i64 x.1).wf = true) : ∃ D : DataW Nat, w.ownsMap Tryz.prog 3 noR mb es.length D ∧ (intKeys D).Perm (es.map (·.1)) ∧ Maps.size D = es.length := by
  obtain ⟨arr, clk, hm, he, hs⟩ := h
  have hlen : arr.toList.length = es.length := by
    have := congrArg List.length he
    simpa using this
  have hat : ∀ x ∈ arr.toList, ∃ y ∈ es, x.key = .int .i64 y.1 := fun x hx => by
    have h1 : (x.key, x.val) ∈ es.map (fun p => (Value.int .i64 p.1, p.2)) := by rw [← he]; exact List.mem_map.2 ⟨x, hx, rfl⟩
    obtain ⟨y, hy, e1⟩ := List.mem_map.1 h1
    simp only [Prod.mk.injEq] at e1
    exact ⟨y, hy, e1.1.symm⟩
  have hrg : ∀ (l : List MapEntry) (ys : List (Int × Value)), l.map (fun e => (e.key, e.val)) = ys.map (fun p => (Value.int .i64 p.1, p.2)) → (∀ x ∈ ys, (Lit.int .i64 x.1).wf = true) → (l.map (rg Tryz.prog 3 noR)).map (fun p => Go.intOf p.1) = ys.map (·.1) := by
    intro l
    induction l with
    | nil => intro ys h _; cases ys with | nil => rfl | cons y r => simp at h
    | cons x r ih =>
      intro ys h hwy
      cases ys with
      | nil => simp at h
      | cons y ys =>
        simp only [List.map_cons, List.cons.injEq, Prod.mk.injEq] at h
        have h1 : rg Tryz.prog 3 noR x = (.int .i64 y.1, .nil) := by
          unfold rg
          rw [rd_no h.1.1 (hwy y (by simp))]; rfl
        simp only [List.map_cons, h1]
        rw [ih ys h.2 (fun z hz => hwy z (by simp [hz]))]
        rfl
  refine ⟨.map ((arr.toList.map (rg Tryz.prog 3 noR)).foldr DataW.insert []), ⟨arr, clk, hm, ⟨?_, hs, ?_⟩, ?_, rfl⟩, ?_, ?_⟩
  · have : arr.size = es.length := by simpa using hlen
    omega
  · intro x hx
    obtain ⟨y, hy, e⟩ := hat x hx
    exact ⟨_, rd_no e (hw y hy)⟩
  · have : arr.size = es.length := by simpa using hlen
    omega
  · show (((arr.toList.map (rg Tryz.prog 3 noR)).foldr DataW.insert []).map fun p => Go.intOf p.1).Perm _
    refine ((Go.WideShapes.sorted_perm _).map _).trans ?_
    rw [hrg _ _ he hw]
  · rw [Maps.size_eq, length_sorted, List.length_map, hlen]

/-- slices.Sort's two contracts at this dump, at the fence that asks nothing. -/
theorem sortsA (m : Nat) : AnyZI.SortsIn Tryz.prog Tryz.sortedA_ren Fence.wide m :=
  ⟨fun blk off cap ss W hH hblk hsz => callsIn_wide.2 (AnyM.slices_Sort_int Tryz.sortA blk off cap ss W hH hblk hsz),
   fun p cap W => callsIn_wide.2 (AnyM.slices_Sort_int_none Tryz.sortA p cap W)⟩
theorem keys_call (mb : Option Nat) (W : World) : Calls Tryz.prog 74 #[.map mb] W fun e w' => e = .returned (.func (.func 107) #[] #[.pointer (some ⟨W.heap.size, 0, none⟩)]) ∧ w' = W.alloc (.cells #[.map mb] 101) :=
  callsIn_wide.1 (AnyZI.keys_in Tryz.keysA Fence.wide 5 trivial rfl mb W)
theorem sorted_call (mb : Nat) (es : List (Int × Value)) (w : World) (h : ImMap w mb es) (hl : es.length ≤ 1000) (hw : ∀ x ∈ es, (Lit.int .i64 x.1).wf = true) : Calls Tryz.prog 73 #[.func (.func 107) #[] #[.pointer (some ⟨w.heap.size, 0, none⟩)]] (w.alloc (.cells #[.map (some mb)] 101)) fun e w' => ∃ (v : Value) (ss : List Int), e = .returned v ∧ ss.Perm (es.map (·.1)) ∧
      w'.ownsRow (w.heap.size + 1) 3 1 v ss.length ((ss.mergeSort (fun x y => decide (x ≤ y))).map encZ) ∧ (v = .slice none 0 0 ↔ ss = []) ∧ Below w.heap.size w w' := by
  have hbl := h.lt
  obtain ⟨D, hown, hp, hsz⟩ := h.owns (by unfold maxLen; omega) hw
  have hseq : SeqGives Fence.wide 2 Tryz.prog 107 #[.pointer (some ⟨w.heap.size, 0, none⟩)] encZ (fun ss => ss.Perm (intKeys D)) (Maps.size D) (w.alloc (.cells #[.map (some mb)] 101)) :=
    AnyZI.keys_gives (ρ := Tryz.keysA_ren) { Tryz.keysA with } Fence.wide _ trivial rfl (by omega) w.heap.size mb es.length D _ (by simp) (by simp) (by
      obtain ⟨es', clock, hb, Ft, hs, hD⟩ := hown
      exact ⟨es', clock, (Below.heap_alloc _ _ mb hbl).trans hb, Ft, hs, hD⟩)
  have cS := AnyZI.sorted_in Tryz.sortedA Fence.wide 5 trivial trivial trivial trivial rfl (by omega) (sortsA _) (enters_of Tryz.func106 (by kernel_rfl) rfl) 107 #[.pointer (some ⟨w.heap.size, 0, none⟩)] trivial (enters_of Tryz.func107 (by kernel_rfl) rfl) _ _ (by unfold maxLen; omega) (by omega) _ hseq
  change CallsIn _ _ Tryz.prog 73 _ _ _ at cS
  refine (callsIn_wide.1 cS).mono ?_
  rintro e w' ⟨v, ss, rfl, hS, hrow, hnil, hb⟩
  exact ⟨v, ss, rfl, hS.trans hp, ownsRow_base_a hrow (by simp), hnil, ((Below.refl _ w).alloc (Nat.le_refl _) _).trans (hb.mono (by simp))⟩
/-- A list of one number in order. -/
theorem sort_one {ss : List Int} {p : Int} (h : ss.Perm [p]) : ss = [p] := List.perm_singleton.1 h
end Go.Proofs.YtjibnlpjpbileaaGreatDoor
namespace Go.Proofs.YtjibnlpjpbileaaGreatDoor
open Go.RowKit Atom
open Go.Proofs.YtjibnlpjpbileaaGreatDoor.Code
set_option linter.unusedVariables false

abbrev KEYS : Value → Value := fun p => .func (.func 107) #[] #[p]
def rowW (rs : List (Ac × Wh)) : List Value := rs.flatMap fun x => [.int .i64 x.1.pid, .int .i64 x.1.pc, .slice x.2.ra x.1.regs.length x.2.rc, .slice x.2.ba x.1.box.length x.2.bc, .slice x.2.la x.1.N x.2.lc]
theorem rowW_snoc (rs : List (Ac × Wh)) (x : Ac × Wh) : rowW (rs ++ [x]) = rowW rs ++ [.int .i64 x.1.pid, .int .i64 x.1.pc, .slice x.2.ra x.1.regs.length x.2.rc, .slice x.2.ba x.1.box.length x.2.bc, .slice x.2.la x.1.N x.2.lc] := by
  unfold rowW; simp
/-- What the walk over the Pids has in hand. -/
structure Gp (w wr : World) (C mb kb : Nat) (ks : List Int) (cv : Value) (next : Int) (ov : Value) (es : List (Int × Value)) (base : Nat) (u : Value) (n : Nat) (xs : List Value) : Prop where
  crw : Crw wr C mb cv next ov es
  p0 : wr.cell? ⟨w.heap.size + 1, 0, none⟩ = some cv
  p1 : wr.cell? ⟨w.heap.size + 1, 1, none⟩ = some u
  p2 : wr.cell? ⟨w.heap.size + 1, 2, none⟩ = some (.int .i64 next)
  p3 : wr.cell? ⟨w.heap.size + 1, 3, none⟩ = some ov
  pf : ∀ x, wr.frozen? ⟨w.heap.size + 1, x, none⟩ = false
  r0 : wr.cell? ⟨w.heap.size, 0, none⟩ = some (.slice none 0 0)
  r1 : wr.cell? ⟨w.heap.size, 1, none⟩ = some (.slice none 0 0)
  r2 : wr.cell? ⟨w.heap.size, 2, none⟩ = some (.int .i64 0)
  r3 : wr.cell? ⟨w.heap.size, 3, none⟩ = some (.slice none 0 0)
  rf : ∀ x, wr.frozen? ⟨w.heap.size, x, none⟩ = false
  key : ∀ j (hj : j < ks.length), wr.cell? ⟨kb, j, none⟩ = some (.int .i64 ks[j])
  own : wr.ownsRow base 61 5 u n xs
  bl : Below w.heap.size w wr
  cl : C < w.heap.size
  ml : mb < w.heap.size
  kl : kb ≠ w.heap.size + 1 ∧ kb < base
  bb : w.heap.size + 2 ≤ base ∧ base ≤ wr.heap.size
/-- One more. -/
theorem Gp.more {w wr w6 : World} {C mb kb : Nat} {ks : List Int} {cv : Value} {next : Int} {ov : Value} {es : List (Int × Value)} {base : Nat} {u : Value} {n : Nat} {xs : List Value} (h : Gp w wr C mb kb ks cv next ov es base u n xs) {o : Obj} {g cap : Nat} {ys : List Value}
    (hown : w6.ownsRow base 61 5 (.slice (some ⟨g, 0, none⟩) (n + 1) cap) (n + 1) ys) (hgr : (wr.alloc o).grownBy w6 u.ownBlock) (hat : u.ownBlock = some g ∨ g = (wr.alloc o).heap.size) :
    Gp w (w6.setCell ⟨w.heap.size + 1, 1, none⟩ (.slice (some ⟨g, 0, none⟩) (n + 1) cap)) C mb kb ks cv next ov es base (.slice (some ⟨g, 0, none⟩) (n + 1) cap) (n + 1) ys := by
  have hb := h.bb
  have hs1 : (wr.alloc o).heap.size = wr.heap.size + 1 := World.size_alloc _ _
  have hlt := h.own.lt
  have hblk : ∀ x, x < base → w6.heap[x]? = wr.heap[x]? := fun x hx => by
    rw [hgr.block x (by rw [hs1]; omega) (fun q => by have := (hlt x q.symm).1; omega)]
    show (wr.heap.push _)[x]? = _
    rw [Array.getElem?_push, if_neg (by omega)]
  have hg : base ≤ g := by
    rcases hat with e | e
    · exact (hlt g e).1
    · omega
  have hset : ∀ x, x < base → x ≠ w.heap.size + 1 → (w6.setCell ⟨w.heap.size + 1, 1, none⟩ (.slice (some ⟨g, 0, none⟩) (n + 1) cap)).heap[x]? = wr.heap[x]? := fun x hx hne => by
    rw [Below.heap_setCell _ ⟨w.heap.size + 1, 1, none⟩ _ x hne, hblk x hx]
  have hP : ∀ y v, wr.cell? ⟨w.heap.size + 1, y, none⟩ = some v → w6.cell? ⟨w.heap.size + 1, y, none⟩ = some v := fun y v hv => (World.cell?_of_block (w := wr) (hblk (w.heap.size + 1) (by omega))).trans hv
  have hPs : ∀ y v, y ≠ 1 → wr.cell? ⟨w.heap.size + 1, y, none⟩ = some v → (w6.setCell ⟨w.heap.size + 1, 1, none⟩ (.slice (some ⟨g, 0, none⟩) (n + 1) cap)).cell? ⟨w.heap.size + 1, y, none⟩ = some v := fun y v hy hv => by
    rw [World.cell?_setCell_other (h := fun q => hy (by simp only [Addr.mk.injEq] at q; omega))]; exact hP y v hv
  have hR := hset w.heap.size (by omega) (by omega)
  have hc := h.cl
  have hm := h.ml
  have hz6 := hgr.size
  exact ⟨h.crw.keep (hset C (by omega) (by omega)) (hset mb (by omega) (by omega)), hPs 0 _ (by omega) h.p0, World.cell?_setCell_same _ _ _ (hP 1 _ h.p1), hPs 2 _ (by omega) h.p2, hPs 3 _ (by omega) h.p3, fun x => by rw [World.frozen?_setCell]; exact (World.frozen?_of_block (w := wr) (hblk (w.heap.size + 1) (by omega))).trans (h.pf x), (World.cell?_of_block (w := wr) hR).trans h.r0, (World.cell?_of_block (w := wr) hR).trans h.r1, (World.cell?_of_block (w := wr) hR).trans h.r2, (World.cell?_of_block (w := wr) hR).trans h.r3, fun x => (World.frozen?_of_block (w := wr) hR).trans (h.rf x), fun j hj => (World.cell?_of_block (w := wr) (hset kb h.kl.2 h.kl.1)).trans (h.key j hj), ownsRow_set9 hown (fun q => by simp only [Value.ownBlock, Option.some.injEq] at q; omega) _,
    ⟨hgr.os.trans h.bl.os, hgr.tape.trans h.bl.tape, hgr.output.trans h.bl.output, by rw [World.size_setCell]; have := h.bl.size; omega, fun x hx => (hset x (by omega) (by omega)).trans (h.bl.block x hx)⟩, hc, hm, h.kl, ⟨hb.1, by rw [World.size_setCell]; omega⟩⟩
theorem five_news {w : World} {a b c d x : Value} {t : TypeId} : ∀ j u, [a, b, c, d, x][j]? = some u → (w.alloc (.cells #[a, b, c, d, x] t)).cell? ((⟨w.heap.size, 0, none⟩ : Addr).add j) = some u := fun j u hu =>
  World.news_of_block (w := w.alloc (.cells #[a, b, c, d, x] t)) (B := w.heap.size) (cs := #[a, b, c, d, x]) (t := t) (fr := (0, 0)) (by show (w.heap.push _)[w.heap.size]? = _; simp) j u hu
/-- What it answers. -/
def PlainP (cv : Value) (next : Int) (ov : Value) (es : List (Int × Value)) (w : World) (e : Ending) (w' : World) : Prop := ∃ (ks : List Int) (rs : List (Ac × Wh)) (v : Value), ks.Perm (es.map (·.1)) ∧ ks.Pairwise (fun x y => x ≤ y) ∧ rs.length = ks.length ∧ (∀ j (hj : j < ks.length) (hr : j < rs.length), imGet es ks[j] = some (acV rs[j].1 rs[j].2)) ∧
  e = .returned (.agg #[cv, v, .int .i64 next, ov]) ∧ w'.ownsRow w.heap.size 61 5 v ks.length (rowW rs) ∧ Below w.heap.size w w'
theorem pick {es : List (Int × Value)} (hac : ∀ p, p ∈ es.map (·.1) → ∃ a h, imGet es p = some (acV a h)) : ∀ ks : List Int, (∀ p ∈ ks, p ∈ es.map (·.1)) → ∃ rs : List (Ac × Wh), rs.length = ks.length ∧ ∀ j (hj : j < ks.length) (hr : j < rs.length), imGet es ks[j] = some (acV rs[j].1 rs[j].2)
  | [], _ => ⟨[], rfl, fun j hj _ => absurd hj (by simp)⟩
  | p :: ks, h => by
    obtain ⟨rs, h1, h2⟩ := pick hac ks (fun q hq => h q (by simp [hq]))
    obtain ⟨a, hh, h3⟩ := hac p (h p (by simp))
    refine ⟨(a, hh) :: rs, by simp [h1], fun j hj hr => ?_⟩
    cases j with
    | zero => exact h3
    | succ j => exact h2 j (by simpa using hj) (by simpa using hr)
theorem keys_form {w w1 w3 : World} {C : Nat} (hz1 : w1.heap.size = w.heap.size + 2) (hC : C < w.heap.size) {v : Value} {n : Nat} {ks : List Int} (hrow : w3.ownsRow (w1.heap.size + 1) 3 1 v n (ks.map encZ)) (hb : Below w1.heap.size w1 w3) : ks.length = n ∧ ∃ (ao : Option Addr) (kc kb : Nat), v = .slice ao n kc ∧ (0 < n → ao = some ⟨kb, 0, none⟩) ∧ (∀ j (hj : j < ks.length), w3.cell? ⟨kb, j, none⟩ = some (.int .i64 ks[j])) ∧ kb ≠ w.heap.size + 1 ∧ kb < w3.heap.size := by
  have hlen : ks.length = n := by have := hrow.1; simpa using this
  refine ⟨hlen, ?_⟩
  have hz := hb.size
  rcases hrow.2 with ⟨rfl, hn⟩ | ⟨g, cap, cur, rfl, hg, _⟩
  · exact ⟨none, 0, C, by rw [hn], fun h => by omega, fun j hj => by omega, by omega, by omega⟩
  · have h2 := hrow.lt g rfl
    refine ⟨some ⟨g, 0, none⟩, cap, g, rfl, fun _ => rfl, fun j hj => ?_, by omega, h2.2⟩
    rw [hrow.cellAt j (by omega), List.getElem?_map, List.getElem?_eq_getElem hj]
    rfl
theorem Gp.first {w w1 w3 : World} {C mb kb : Nat} {ks : List Int} {cv : Value} {next : Int} {ov : Value} {es : List (Int × Value)} {o1 : Obj} (hw1 : w1 = (w.alloc (.cells #[.slice none 0 0, .slice none 0 0, .int .i64 0, .slice none 0 0] 32)).alloc (.cells #[cv, .slice none 0 0, .int .i64 next, ov] 32)) (h : Crw w C mb cv next ov es) (hb : Below w1.heap.size w1 w3) (hk : ∀ j (hj : j < ks.length), w3.cell? ⟨kb, j, none⟩ = some (.int .i64 ks[j])) (hk1 : kb ≠ w.heap.size + 1) (hk2 : kb < w3.heap.size) :
    Gp w w3 C mb kb ks cv next ov es w3.heap.size (.slice none 0 0) 0 [] := by
  obtain ⟨w0, hw0⟩ : ∃ w0, w0 = w.alloc (.cells #[.slice none 0 0, .slice none 0 0, .int .i64 0, .slice none 0 0] 32) := ⟨_, rfl⟩
  rw [← hw0] at hw1
  have hb0 : Below w.heap.size w w0 := by rw [hw0]; exact (Below.refl _ _).alloc (Nat.le_refl _) _
  have hz0 : w0.heap.size = w.heap.size + 1 := by rw [hw0]; simp
  have hb1 : Below w0.heap.size w0 w1 := by rw [hw1]; exact (Below.refl _ _).alloc (Nat.le_refl _) _
  have hz1 : w1.heap.size = w.heap.size + 2 := by rw [hw1]; simp [hz0]
  have hbw : Below w.heap.size w w1 := hb0.trans (hb1.mono hb0.size)
  have hbw3 : Below w.heap.size w w3 := hbw.trans (hb.mono hbw.size)
  have hq1 : ∀ x, w1.cell? ⟨w.heap.size + 1, x, none⟩ = (#[cv, .slice none 0 0, .int .i64 next, ov] : Array Value)[x]? := fun x => by rw [hw1, ← hz0, World.cell?_alloc_new]
  have hq0 : ∀ x, w0.cell? ⟨w.heap.size, x, none⟩ = (#[.slice none 0 0, .slice none 0 0, .int .i64 0, .slice none 0 0] : Array Value)[x]? := fun x => by rw [hw0, World.cell?_alloc_new]
  have hf1 : ∀ x, w1.frozen? ⟨w.heap.size + 1, x, none⟩ = false := fun x => by rw [hw1, ← hz0]; simp
  have hf0 : ∀ x, w0.frozen? ⟨w.heap.size, x, none⟩ = false := fun x => by rw [hw0]; simp
  have hbb : Below w0.heap.size w0 w3 := hb1.trans (hb.mono hb1.size)
  have kP := hb.block (w.heap.size + 1) (by omega)
  have kR := hbb.block w.heap.size (by omega)
  have hz3 := hb.size
  exact ⟨h.below hbw3, (World.cell?_of_block (w := w1) kP).trans (hq1 0), (World.cell?_of_block (w := w1) kP).trans (hq1 1), (World.cell?_of_block (w := w1) kP).trans (hq1 2), (World.cell?_of_block (w := w1) kP).trans (hq1 3), fun x => (World.frozen?_of_block (w := w1) kP).trans (hf1 x), (World.cell?_of_block (w := w0) kR).trans (hq0 0), (World.cell?_of_block (w := w0) kR).trans (hq0 1), (World.cell?_of_block (w := w0) kR).trans (hq0 2), (World.cell?_of_block (w := w0) kR).trans (hq0 3), fun x => (World.frozen?_of_block (w := w0) kR).trans (hf0 x), hk, World.ownsRow_nil _ _ _ _, hbw3, h.lt, h.mp.lt, ⟨hk1, hk2⟩, by omega, Nat.le_refl _⟩

set_option maxHeartbeats 4000000 in
set_option maxRecDepth 100000 in
theorem plain_any (C mb : Nat) (cv : Value) (next : Int) (ov : Value) (es : List (Int × Value)) (w : World) (h : Crw w C mb cv next ov es) (hcv : ∃ a l c, cv = .slice a l c) (hov : ∃ a l c, ov = .slice a l c) (hl : es.length ≤ 200) (hw : ∀ x ∈ es, (Lit.int .i64 x.1).wf = true) (hac : ∀ p, p ∈ es.map (·.1) → ∃ a h, imGet es p = some (acV a h)) :
    Calls Tryz.prog 35 #[.pointer (some ⟨C, 0, none⟩)] w fun e w' => PlainP cv next ov es w e w' := by
  obtain ⟨ca, cl, cc, rfl⟩ := hcv
  obtain ⟨oa, ol, oc, rfl⟩ := hov
  obtain ⟨w0, hw0⟩ : ∃ w0, w0 = w.alloc (.cells #[.slice none 0 0, .slice none 0 0, .int .i64 0, .slice none 0 0] 32) := ⟨_, rfl⟩
  have hb0 : Below w.heap.size w w0 := by rw [hw0]; exact (Below.refl _ _).alloc (Nat.le_refl _) _
  have hz0 : w0.heap.size = w.heap.size + 1 := by rw [hw0]; simp
  obtain ⟨w1, hw1⟩ : ∃ w1, w1 = w0.alloc (.cells #[.slice ca cl cc, .slice none 0 0, .int .i64 next, .slice oa ol oc] 32) := ⟨_, rfl⟩
  have hb1 : Below w0.heap.size w0 w1 := by rw [hw1]; exact (Below.refl _ _).alloc (Nat.le_refl _) _
  have hbw1 : Below w.heap.size w w1 := hb0.trans (hb1.mono hb0.size)
  have hz1 : w1.heap.size = w.heap.size + 2 := by rw [hw1]; simp [hz0]
  have h1 := h.below hbw1
  have hCl := h.lt
  have HSO : Hid (Calls Tryz.prog 73 #[.func (.func 107) #[] #[.pointer (some ⟨w1.heap.size, 0, none⟩)]] ((w1.alloc (.cells #[.map (some mb)] 101)).drew) fun e w3 => ∃ (ao : Option Addr) (kc kb : Nat) (ks : List Int), e = .returned (.slice ao ks.length kc) ∧ (ks.Perm (es.map (·.1)) ∧ ks.Pairwise (fun x y => x ≤ y)) ∧ (0 < ks.length → ao = some ⟨kb, 0, none⟩) ∧ Gp w w3 C mb kb ks (.slice ca cl cc) next (.slice oa ol oc) es w3.heap.size (.slice none 0 0) 0 []) := by
    refine (sorted_call mb es w1.drew (h1.mp.below ((Below.refl _ _).drew)) (by omega) hw).mono ?_
    rintro e w3 ⟨v, ss, rfl, hp, hrow, _, hb3⟩
    have hb3' : Below w1.heap.size w1 w3 := bundrewZ hb3
    obtain ⟨hln, ao, kc, kb, rfl, hao, hkc, hk1, hk2⟩ := keys_form hz1 hCl (v := v) hrow hb3'
    refine ⟨ao, kc, kb, ss.mergeSort (fun x y => decide (x ≤ y)), by rw [hln], ⟨(List.mergeSort_perm _ _).trans hp, ?_⟩, fun hn => hao (by omega), Gp.first (o1 := .cells #[] 0) (by rw [hw1, hw0]) h hb3' hkc hk1 hk2⟩
    have hs := List.pairwise_mergeSort (le := fun (x y : Int) => decide (x ≤ y)) (fun a b c h1 h2 => by simp only [decide_eq_true_eq] at *; omega) (fun a b => by simp only [Bool.or_eq_true, decide_eq_true_eq]; omega) ss
    exact hs.imp (fun h => by simpa using h)
  have HL : Hid (es.length ≤ 200) := hl
  have HAC : Hid (∀ p, p ∈ es.map (·.1) → ∃ a h, imGet es p = some (acV a h)) := hac
  have c0 := (h.below hb0).c0
  have c1 := (h.below hb0).c1
  have c2 := (h.below hb0).c2
  have c3 := (h.below hb0).c3
  rw [hw0] at c0 c1 c2 c3
  have d1 := h1.c1
  clear h hl hw hac hb0 hb1 hbw1 h1
  go_enter Tryz.func35, Tryz.ntmps35
  go_wp2_with fail
  rw [← hw0] at c0 c1 c2 c3 ⊢
  clear hw0
  go_region_held3 (fun w' => w'.cell? ⟨C, 0, none⟩ = some (.slice ca cl cc) ∧ w'.cell? ⟨C, 1, none⟩ = some (.map (some mb)) ∧ w'.cell? ⟨C, 2, none⟩ = some (.int .i64 next) ∧ w'.cell? ⟨C, 3, none⟩ = some (.slice oa ol oc)) (go_keep) (fail)
  rw [← hw1]
  clear hw1 hz1 hz0 hCl
  go_wp2_with (first
    | (go_at_call 74; refine (keys_call (some mb) _).mono ?_; rintro e w' ⟨rfl, rfl⟩)
    | (go_at_call 73; refine HSO.out.mono ?_; rintro e w3 ⟨ao, kc, kb, ks, rfl, hks, hao, hg3⟩))
  have HKS : Hid (ks.Perm (es.map (·.1)) ∧ ks.Pairwise (fun x y => x ≤ y)) := hks
  have HAO : Hid (0 < ks.length → ao = some ⟨kb, 0, none⟩) := hao
  have hkl : ks.length ≤ 200 := by have := hks.1.length_eq; rw [List.length_map] at this; rw [this]; exact HL.out
  obtain ⟨rs, hrl, hrs⟩ := pick HAC.out ks (fun p hp => hks.1.mem_iff.1 hp)
  have HRS : Hid (rs.length = ks.length ∧ ∀ j (hj : j < ks.length) (hr : j < rs.length), imGet es ks[j] = some (acV rs[j].1 rs[j].2)) := ⟨hrl, hrs⟩
  obtain ⟨i0, hi, hzz0, hzz1, hzz2⟩ := infoParts9 infoAct
  have HG3 : Hid (Gp w w3 C mb kb ks (.slice ca cl cc) next (.slice oa ol oc) es w3.heap.size (.slice none 0 0) 0 []) := hg3
  obtain ⟨base, hbase⟩ : ∃ base, w3.heap.size = base := ⟨_, rfl⟩
  rw [hbase] at HG3
  clear hks hao hrl hrs hg3 d1 HSO HAC hbase
  go_wp2_with fail
  go_loopw [26] (fun iv wr => ∃ (k : Nat) (ua : Option Addr) (uc : Nat), k ≤ ks.length ∧ iv = .int .i64 k ∧ Gp w wr C mb kb ks (.slice ca cl cc) next (.slice oa ol oc) es base (.slice ua k uc) k (rowW (rs.take k))) (fun iv _ => ks.length - (intOf iv).toNat)
  case atStart => exact ⟨0, none, 0, Nat.zero_le _, rfl, HG3.out⟩
  case round =>
    obtain ⟨k, ua, uc, hk, rfl, hg⟩ := hrel
    have HG : Hid (Gp w wr C mb kb ks (.slice ca cl cc) next (.slice oa ol oc) es base (.slice ua k uc) k (rowW (rs.take k))) := hg
    by_cases hlt : k < ks.length
    · have hkr : k < rs.length := by rw [HRS.out.1]; exact hlt
      have hke := hg.key k hlt
      have e1 : ao = some ⟨kb, 0, none⟩ := HAO.out (by omega)
      subst e1
      have hcm := hg.crw.c1
      have hlk := look_int1 hg.crw.mp und_mapA Tryz.zeroValue61 ks[k]
      have hl1 := hlk wr rfl
      have hl2 := hlk wr.drew rfl
      rw [HRS.out.2 k hlt hkr, Option.getD_some] at hl1 hl2
      have p1 := hg.p1
      have pf := hg.pf
      have HTK : Hid (rs.take (k + 1) = rs.take k ++ [rs[k]]) := List.take_succ_eq_append_getElem hkr
      obtain ⟨hbb1, hbb2⟩ := hg.bb
      clear hlk hg
      generalize hq : rs[k] = x at *
      clear hq
      obtain ⟨⟨pid, pc, regs, box, N, f⟩, hh⟩ := x
      dsimp only [acV] at hl1 hl2
      have HGR : Hid (∀ w6, (wr.alloc (.cells #[.int .i64 pid, .int .i64 pc, .slice hh.ra regs.length hh.rc, .slice hh.ba box.length hh.bc, .slice hh.la N hh.lc] 61)).drew.grownBy w6 (Value.slice ua k uc).ownBlock → w6.cell? ⟨w.heap.size + 1, 1, none⟩ = some (.slice ua k uc) ∧ ∀ x, w6.frozen? ⟨w.heap.size + 1, x, none⟩ = false) := (fun w6 hgr => by
        have hblk : w6.heap[w.heap.size + 1]? = wr.heap[w.heap.size + 1]? := by
          rw [hgr.block (w.heap.size + 1) (by show _ < (World.alloc _ _).heap.size; rw [World.size_alloc]; omega) (fun q => by have := (HG.out.own.lt _ q.symm).1; omega)]
          show (wr.heap.push _)[w.heap.size + 1]? = _
          rw [Array.getElem?_push, if_neg (by omega)]
        exact ⟨(World.cell?_of_block (w := wr) hblk).trans HG.out.p1, fun x => (World.frozen?_of_block (w := wr) hblk).trans (HG.out.pf x)⟩)
      have p1a : ∀ o, (wr.alloc o).cell? ⟨w.heap.size + 1, 1, none⟩ = some (.slice ua k uc) := fun o => keepA ((Below.refl _ _).alloc (Nat.le_refl _) o) p1
      go_wp2_with fail
      go_region_law (first
        | (refine step_append_lies _ rfl (.tmp 31) (.tmp 38) 29 rfl base 61 i0 (.agg #[.int .i64 0, .int .i64 0, .slice none 0 0, .slice none 0 0, .slice none 0 0]) 5 88 undActS hi hzz0 hzz1 hzz2 rfl (by decide) (.slice ua k uc) k (rowW (rs.take k)) (by simp [Act.eval]) (HG.out.own.alloc _) ⟨wr.heap.size, 0, none⟩ 1 1 [.int .i64 pid, .int .i64 pc, .slice hh.ra regs.length hh.rc, .slice hh.ba box.length hh.bc, .slice hh.la N hh.lc] (by simp [Act.eval]) rfl five_news (by intro u' hu'; simp at hu'; rcases hu' with rfl | rfl | rfl | rfl | rfl <;> rfl) (by decide) (by unfold maxLen; omega) (by omega) (by simp; omega) _ rfl ?_; intro g cap6 w6 hown6 hgrow6 hat6 hlt6; obtain ⟨t36, tf6⟩ := HGR.out w6 hgrow6)
        | (go_simp; go_wp2_with fail))
      all_goals
        have hgr' : (wr.alloc (.cells #[.int .i64 pid, .int .i64 pc, .slice hh.ra regs.length hh.rc, .slice hh.ba box.length hh.bc, .slice hh.la N hh.lc] 61)).grownBy w6 (Value.slice ua k uc).ownBlock := ⟨hgrow6.os, hgrow6.tape, hgrow6.output, hgrow6.size, hgrow6.block⟩
        have HN : Hid (Gp w (w6.setCell ⟨w.heap.size + 1, 1, none⟩ (.slice (some ⟨g, 0, none⟩) (k + 1) cap6)) C mb kb ks (.slice ca cl cc) next (.slice oa ol oc) es base (.slice (some ⟨g, 0, none⟩) (k + 1) cap6) (k + 1) (rowW (rs.take (k + 1)))) := by
          rw [HTK.out, rowW_snoc]
          exact HG.out.more hown6 hgr' hat6
        clear hown6 hgrow6 hgr' hat6 hlt6 HGR HTK p1 p1a hl1 hl2 hke hcm pf hbb1 hbb2
        go_wp2_with fail
        go_roundw
        case rel => exact ⟨k + 1, _, _, by omega, by simp, HN.out⟩
        case measure => simp [intOf]; omega
    · have e : k = ks.length := by omega
      subst e
      have p0 := hg.p0
      have p1 := hg.p1
      have p2 := hg.p2
      have p3 := hg.p3
      have r0 := hg.r0
      have r1 := hg.r1
      have r2 := hg.r2
      have r3 := hg.r3
      have rf := hg.rf
      clear hg
      go_wp2_with fail
      have hbb := HG.out.bb
      have hne : (Value.slice ua ks.length uc).ownBlock ≠ some w.heap.size := fun q => by have := (HG.out.own.lt _ q).1; omega
      refine bodyPost_ret (v := .agg #[.slice ca cl cc, .slice ua ks.length uc, .int .i64 next, .slice oa ol oc]) (by simp [results, Tryz.results35, go_sem, r0, r1, r2, r3]) rfl ⟨ks, rs, _, HKS.out.1, HKS.out.2, HRS.out.1, HRS.out.2, rfl, ?_, ?_⟩
      · refine ownsRow_set9 (ownsRow_set9 (ownsRow_set9 (ownsRow_set9 ?_ hne _) hne _) hne _) hne _
        have ho := HG.out.own.mono (base' := w.heap.size) (by omega)
        rw [List.take_of_length_le (by rw [HRS.out.1]; exact Nat.le_refl _)] at ho
        exact ho
      · exact (((HG.out.bl.setCell (Nat.le_refl _) _).setCell (Nat.le_refl _) _).setCell (Nat.le_refl _) _).setCell (Nat.le_refl _) _
end Go.Proofs.YtjibnlpjpbileaaGreatDoor
namespace Go.Proofs.YtjibnlpjpbileaaGreatDoor
open Go.RowKit Atom
open Go.Proofs.YtjibnlpjpbileaaGreatDoor.Code
set_option linter.unusedVariables false

/-- What a row of one's own holds, cell by cell. -/
theorem owns_cells {w : World} {base : Nat} {T : TypeId} {s : Nat} {v : Value} {n : Nat} {xs : List Value} (h : w.ownsRow base T s v n xs) (hn : n ≠ 0) :
    ∃ g c, v = .slice (some ⟨g, 0, none⟩) n c ∧ base ≤ g ∧ n ≤ c ∧ c ≤ maxLen ∧ (∀ j u, xs[j]? = some u → w.cell? ⟨g, j, none⟩ = some u) ∧ (∀ x, w.frozen? ⟨g, x, none⟩ = false) ∧ g < w.heap.size := by
  obtain ⟨_, h1 | ⟨g, c, cur, rfl, hg, hh, hn', hc, hsz, htk⟩⟩ := h
  · exact absurd h1.2 hn
  · refine ⟨g, c, rfl, hg, hn', hc, fun j u hj => ?_, fun x => by simp [World.frozen?, hh], ?_⟩
    · have hcell : w.cell? ⟨g, j, none⟩ = cur[j]? := by simp [World.cell?, hh]
      rw [hcell, ← Array.getElem?_toList]
      rw [← htk, List.getElem?_take] at hj
      split at hj
      · exact hj
      · cases hj
    · rcases Nat.lt_or_ge g w.heap.size with h | h
      · exact h
      · rw [Array.getElem?_eq_none h] at hh; cases hh

theorem insC_len : ∀ (l : List I), (l.flatMap insL).length = l.length * 6
  | [] => rfl
  | x :: r => by rw [List.flatMap_cons, List.length_append, insC_len r, List.length_cons]; show 6 + _ = _; omega
theorem insC_one : ∀ (l : List I), ∀ u ∈ l.flatMap insL, u.oneCell' = true := fun l u hu => by
  obtain ⟨x, _, hx⟩ := List.mem_flatMap.1 hu
  unfold insL at hx
  simp only [List.mem_cons, List.not_mem_nil, or_false] at hx
  rcases hx with rfl | rfl | rfl | rfl | rfl | rfl <;> rfl
theorem insL_get {x : I} {j : Nat} {u : Value} {w : World} {b o : Nat} (hx : Bx6 w b o x) (h : (insL x)[j]? = some u) : w.cell? ⟨b, o + j, none⟩ = some u := by
  unfold insL at h
  match j, h with
  | 0, h => simp at h; subst h; exact hx.c0
  | 1, h => simp at h; subst h; exact hx.c1
  | 2, h => simp at h; subst h; exact hx.c2
  | 3, h => simp at h; subst h; exact hx.c3
  | 4, h => simp at h; subst h; exact hx.c4
  | 5, h => simp at h; subst h; exact hx.c5
  | n + 6, h => simp at h
theorem insC_cells {w : World} {b : Nat} : ∀ (l : List I) (o : Nat), (∀ j (hj : j < l.length), Bx6 w b (o + j * 6) l[j]) → ∀ j u, (l.flatMap insL)[j]? = some u → w.cell? ⟨b, o + j, none⟩ = some u
  | [], o, _, j, u, h => by simp at h
  | x :: r, o, hb, j, u, h => by
    rw [List.flatMap_cons] at h
    have hl : (insL x).length = 6 := rfl
    by_cases hj : j < 6
    · rw [List.getElem?_append_left (by rw [hl]; exact hj)] at h
      have := hb 0 (by simp)
      rw [Nat.zero_mul, Nat.add_zero] at this
      exact insL_get this h
    · rw [List.getElem?_append_right (by rw [hl]; omega), hl] at h
      have := insC_cells r (o + 6) (fun k hk => by
        have h1 := hb (k + 1) (by simp; omega)
        rw [show o + (k + 1) * 6 = o + 6 + k * 6 by omega] at h1
        exact h1) (j - 6) u h
      rw [show o + j = o + 6 + (j - 6) by omega]; exact this
theorem insC_row {w : World} {g : Nat} : ∀ (l : List I) (off : Nat), (∀ j u, (l.flatMap insL)[j]? = some u → w.cell? ⟨g, off + j, none⟩ = some u) → GR eltI w l [] g off
  | [], off, _ => by rw [GR]
  | x :: r, off, h => by
    have hl : (insL x).length = 6 := rfl
    have h0 : ∀ j u, (insL x)[j]? = some u → w.cell? ⟨g, off + j, none⟩ = some u := fun j u hj => h j u (by
      rw [List.flatMap_cons, List.getElem?_append_left (List.getElem?_eq_some_iff.1 hj).1]; exact hj)
    rw [GR]
    refine ⟨[], [], rfl, ⟨rfl, h0 0 _ rfl, h0 1 _ rfl, h0 2 _ rfl, h0 3 _ rfl, h0 4 _ rfl, h0 5 _ rfl⟩, insC_row r (off + 6) fun j u hj => ?_⟩
    have := h (6 + j) u (by rw [List.flatMap_cons, List.getElem?_append_right (by rw [hl]; omega), hl, show 6 + j - 6 = j by omega]; exact hj)
    rw [show off + 6 + j = off + (6 + j) by omega]; exact this

set_option maxHeartbeats 1000000 in
theorem cloneIns_any (l : List I) (b o cap : Nat) (w : World) (h : ∀ j (hj : j < l.length), Bx6 w b (o + j * 6) l[j]) (hne : l ≠ []) (hlen : l.length ≤ 1048576) :
    Calls Tryz.prog 68 #[.slice (some ⟨b, o, none⟩) l.length cap] w fun e w' => ∃ g c, e = .returned (.slice (some ⟨g, 0, none⟩) l.length c) ∧ l.length ≤ c ∧ c ≤ maxLen ∧ w.heap.size ≤ g ∧ g < w'.heap.size ∧ GR eltI w' l [] g 0 ∧ (∀ x, w'.frozen? ⟨g, x, none⟩ = false) ∧ Below w.heap.size w w' := by
  have hnil := fun (w : World) (a : Option Addr) (n c : Nat) => Go.Lib.run_eql_slice_nil (P := Tryz.prog) w 28 65 a n c 0 0 undInsS
  obtain ⟨i0, hi, hz, hs, hb⟩ := infoParts9 infoIns
  have HI : Hid (Tryz.prog.info? 65 = some i0 ∧ i0.zero = some (.agg #[.int .i64 0, .int .i64 0, .int .i64 0, .int .i64 0, .int .i64 0, .string ⟨#[]⟩]) ∧ i0.size = 6 ∧ i0.bytes = 56) := ⟨hi, hz, hs, hb⟩
  have HO : Hid ((w.alloc (.cells #[] 65)).ownsRow w.heap.size 65 6 (.slice (some ⟨w.heap.size, 0, none⟩) 0 0) 0 []) := World.ownsRow_made w #[] 0 (Nat.le_refl _) (Nat.zero_le _) rfl
  have HB : Hid (Below w.heap.size w (w.alloc (.cells #[] 65))) := (Below.refl _ _).alloc (Nat.le_refl _) _
  have HL : Hid ((l.flatMap insL).length = l.length * 6) := insC_len l
  have HC : Hid (∀ j u, (l.flatMap insL)[j]? = some u → (w.alloc (.cells #[] 65)).cell? ((⟨b, o, none⟩ : Addr).add j) = some u) := fun j u hj => by
    have hc := insC_cells l o h j u hj
    have hlt := World.block_lt_of_cell? w _ hc
    rw [Addr.add_lit, HB.out.cell (p := ⟨b, o + j, none⟩) hlt]; exact hc
  have H1 : Hid (∀ u ∈ l.flatMap insL, u.oneCell' = true) := insC_one l
  have C3 : Hid (0 + l.length ≤ maxLen) := by show _ ≤ _; unfold maxLen; omega
  have C4 : Hid ((0 + l.length) * 56 ≤ 140737488355328) := by show _ ≤ _; omega
  have hpos : l.length ≠ 0 := fun e => hne (List.eq_nil_of_length_eq_zero e)
  have HPOS : Hid (l.length ≠ 0) := hpos
  have HROW : Hid (∀ (w' : World) g, (∀ j u, (l.flatMap insL)[j]? = some u → w'.cell? ⟨g, j, none⟩ = some u) → GR eltI w' l [] g 0) := fun w' g hh => insC_row l 0 (fun j u hj => by rw [Nat.zero_add]; exact hh j u hj)
  generalize l.flatMap insL = xs at *
  clear h hne hi hz hs hb hpos
  go_enter Tryz.func68, Tryz.ntmps68
  go_wp2_with (at_builtin; refine wpList_append_own_at _ rfl _ _ 28 rfl w.heap.size 65 i0 (.agg #[.int .i64 0, .int .i64 0, .int .i64 0, .int .i64 0, .int .i64 0, .string ⟨#[]⟩]) 6 56 undInsS HI.out.1 HI.out.2.1 HI.out.2.2.1 HI.out.2.2.2 rfl (by decide) (.slice (some ⟨w.heap.size, 0, none⟩) 0 0) 0 [] rfl HO.out ⟨b, o, none⟩ l.length cap xs rfl HL.out HC.out H1.out C3.out C4.out HB.out.size ?_; intro v2 w2 hown2 hgr2 hnn2 hat2; have HOWN : Hid (w2.ownsRow w.heap.size 65 6 v2 (0 + l.length) ([] ++ xs)) := hown2; have HGR : Hid ((w.alloc (.cells #[] 65)).grownBy w2 (some w.heap.size)) := hgr2; clear hown2 hgr2 hnn2 hat2)
  go_ret
  have hB2 : Below w.heap.size w w2 := HB.out.grown HGR.out HB.out.size (fun k hk => by injection hk with hk; omega)
  have ho := HOWN.out
  rw [Nat.zero_add, List.nil_append] at ho
  obtain ⟨g, c, rfl, h1, h2, h3, h4, h5, h6⟩ := owns_cells ho HPOS.out
  exact ⟨g, c, rfl, h2, h3, h1, h6, HROW.out w2 g h4, h5, hB2⟩

set_option maxHeartbeats 1000000 in
theorem cloneIns_nil (cap : Nat) (ao : Option Addr) (w : World) :
    Calls Tryz.prog 68 #[.slice ao 0 cap] w fun e w' => ∃ a c, e = .returned (.slice a 0 c) ∧ c ≤ maxLen ∧ Below w.heap.size w w' := by
  have hnil := fun (w : World) (a : Option Addr) (n c : Nat) => Go.Lib.run_eql_slice_nil (P := Tryz.prog) w 28 65 a n c 0 0 undInsS
  cases ao with
  | none =>
    go_enter Tryz.func68, Tryz.ntmps68
    go_wp2_with fail
    go_ret
    exact ⟨none, 0, rfl, Nat.zero_le _, Below.refl _ _⟩
  | some ad =>
    obtain ⟨i0, hi, hz, hs, hb⟩ := infoParts9 infoIns
    have HI : Hid (Tryz.prog.info? 65 = some i0 ∧ i0.zero = some (.agg #[.int .i64 0, .int .i64 0, .int .i64 0, .int .i64 0, .int .i64 0, .string ⟨#[]⟩]) ∧ i0.size = 6 ∧ i0.bytes = 56) := ⟨hi, hz, hs, hb⟩
    have HO : Hid ((w.alloc (.cells #[] 65)).ownsRow w.heap.size 65 6 (.slice (some ⟨w.heap.size, 0, none⟩) 0 0) 0 []) := World.ownsRow_made w #[] 0 (Nat.le_refl _) (Nat.zero_le _) rfl
    have HB : Hid (Below w.heap.size w (w.alloc (.cells #[] 65))) := (Below.refl _ _).alloc (Nat.le_refl _) _
    clear hi hz hs hb
    go_enter Tryz.func68, Tryz.ntmps68
    go_wp2_with (at_builtin; refine wpList_append_own_at _ rfl _ _ 28 rfl w.heap.size 65 i0 (.agg #[.int .i64 0, .int .i64 0, .int .i64 0, .int .i64 0, .int .i64 0, .string ⟨#[]⟩]) 6 56 undInsS HI.out.1 HI.out.2.1 HI.out.2.2.1 HI.out.2.2.2 rfl (by decide) (.slice (some ⟨w.heap.size, 0, none⟩) 0 0) 0 [] rfl HO.out ad 0 cap [] rfl rfl (fun j u h => by simp at h) (fun u h => by cases h) (Nat.zero_le _) (by omega) HB.out.size ?_; intro v2 w2 hown2 hgr2 hnn2 hat2; have HOWN : Hid (w2.ownsRow w.heap.size 65 6 v2 (0 + 0) ([] ++ [])) := hown2; have HGR : Hid ((w.alloc (.cells #[] 65)).grownBy w2 (some w.heap.size)) := hgr2; clear hown2 hgr2 hnn2 hat2)
    go_ret
    have hB2 : Below w.heap.size w w2 := HB.out.grown HGR.out HB.out.size (fun k hk => by injection hk with hk; omega)
    obtain ⟨_, h1 | ⟨g, c, cur, rfl, hg, hh, hn', hc, hsz, htk⟩⟩ := HOWN.out
    · exact ⟨none, 0, by rw [h1.1]; rfl, Nat.zero_le _, hB2⟩
    · exact ⟨_, c, rfl, hc, hB2⟩

theorem same_cell {w : World} {g p : Nat} {v : Value} (hc : w.cell? ⟨g, p, none⟩ = some v) : ∀ o u, w.cell? ⟨g, o, none⟩ = some u → (w.setCell ⟨g, p, none⟩ v).cell? ⟨g, o, none⟩ = some u := fun o u hu => by
  by_cases e : o = p
  · subst e
    rw [World.cell?_setCell_same w _ _ hc]
    rw [hc] at hu; exact hu
  · rw [World.cell?_setCell_other (h := fun q => e (by simp only [Addr.mk.injEq] at q; omega))]; exact hu

set_option maxHeartbeats 1000000 in
set_option maxRecDepth 100000 in
theorem ownCode_any (l : List I) (ao : Option Addr) (cap : Nat) (w : World) (hr : RowI w ao l) (hl : l.length ≤ 1048576) (hs : SmI 1048576 l) :
    Calls Tryz.prog 33 #[.slice ao l.length cap] w fun e w' => ∃ a c bs, e = .returned (.slice a l.length c) ∧ GL eltI w' l bs a ∧ bs.Nodup ∧ (∀ b ∈ bs, w.heap.size ≤ b) ∧ l.length ≤ c ∧ c ≤ maxLen ∧ Below w.heap.size w w' := by
  rcases hr with hnl | ⟨b, o, rfl, hrow⟩
  · subst hnl
    have HC : Hid (Calls Tryz.prog 68 #[.slice ao 0 cap] w fun e w' => ∃ a c, e = .returned (.slice a 0 c) ∧ c ≤ maxLen ∧ Below w.heap.size w w') := cloneIns_nil cap ao w
    go_enter Tryz.func33, Tryz.ntmps33
    go_wp2_with (go_at_call 68; fail)
    refine HC.out.mono ?_
    rintro e w1 ⟨a, c, rfl, hc, hb1⟩
    have HB1 : Hid (Below w.heap.size w w1 ∧ c ≤ maxLen) := ⟨hb1, hc⟩
    clear hc hb1
    go_wp2_with fail
    go_loopw [10] (fun iv wr => iv = .int .i64 0 ∧ wr = w1) (fun _ _ => 0)
    case atStart => exact ⟨rfl, rfl⟩
    case round =>
      obtain ⟨rfl, rfl⟩ := hrel
      go_wp2_with fail
      go_ret
      exact ⟨a, c, [], rfl, GL.nil _ _, by simp, (fun b hb => by cases hb), Nat.zero_le _, HB1.out.2, HB1.out.1⟩
  · by_cases hne : l = []
    · subst hne
      have HC : Hid (Calls Tryz.prog 68 #[.slice (some ⟨b, o, none⟩) 0 cap] w fun e w' => ∃ a c, e = .returned (.slice a 0 c) ∧ c ≤ maxLen ∧ Below w.heap.size w w') := cloneIns_nil cap _ w
      go_enter Tryz.func33, Tryz.ntmps33
      go_wp2_with (go_at_call 68; fail)
      refine HC.out.mono ?_
      rintro e w1 ⟨a, c, rfl, hc, hb1⟩
      have HB1 : Hid (Below w.heap.size w w1 ∧ c ≤ maxLen) := ⟨hb1, hc⟩
      clear hc hb1
      go_wp2_with fail
      go_loopw [10] (fun iv wr => iv = .int .i64 0 ∧ wr = w1) (fun _ _ => 0)
      case atStart => exact ⟨rfl, rfl⟩
      case round =>
        obtain ⟨rfl, rfl⟩ := hrel
        go_wp2_with fail
        go_ret
        exact ⟨a, c, [], rfl, GL.nil _ _, by simp, (fun b hb => by cases hb), Nat.zero_le _, HB1.out.2, HB1.out.1⟩
    have HC : Hid (Calls Tryz.prog 68 #[.slice (some ⟨b, o, none⟩) l.length cap] w fun e w' => ∃ g c, e = .returned (.slice (some ⟨g, 0, none⟩) l.length c) ∧ l.length ≤ c ∧ c ≤ maxLen ∧ w.heap.size ≤ g ∧ g < w'.heap.size ∧ GR eltI w' l [] g 0 ∧ (∀ x, w'.frozen? ⟨g, x, none⟩ = false) ∧ Below w.heap.size w w') := cloneIns_any l b o cap w hrow hne hl
    have HS : Hid (SmI 1048576 l ∧ l ≠ []) := ⟨hs, hne⟩
    clear hrow hs hne
    go_enter Tryz.func33, Tryz.ntmps33
    go_wp2_with (go_at_call 68; fail)
    refine HC.out.mono ?_
    rintro e w1 ⟨g, c, rfl, h1, h2, h3, h4, h5, h6, hb1⟩
    have HB1 : Hid (Below w.heap.size w w1 ∧ l.length ≤ c ∧ c ≤ maxLen ∧ w.heap.size ≤ g) := ⟨hb1, h1, h2, h3⟩
    have HR1 : Hid (GR eltI w1 l [] g 0 ∧ (∀ x, w1.frozen? ⟨g, x, none⟩ = false) ∧ g < w1.heap.size) := ⟨h5, h6, h4⟩
    clear hb1 h1 h2 h3 h4 h5 h6 HC
    go_wp2_with fail
    go_loopw [10] (fun iv wr => ∃ i : Nat, i ≤ l.length ∧ iv = .int .i64 i ∧ GR eltI wr l [] g 0 ∧ (∀ x, wr.frozen? ⟨g, x, none⟩ = false) ∧ g < wr.heap.size ∧ Below w.heap.size w wr) (fun iv _ => l.length - (intOf iv).toNat)
    case atStart => exact ⟨0, Nat.zero_le _, rfl, HR1.out.1, HR1.out.2.1, HR1.out.2.2, HB1.out.1⟩
    case round =>
      obtain ⟨i, hi, rfl, hr, hf, hg, hb⟩ := hrel
      have HR : Hid (GR eltI wr l [] g 0 ∧ (∀ x, wr.frozen? ⟨g, x, none⟩ = false) ∧ g < wr.heap.size ∧ Below w.heap.size w wr) := ⟨hr, hf, hg, hb⟩
      by_cases hlt : i < l.length
      · obtain ⟨bt, _, _, hbx⟩ := hr.at i hlt
        have hsx := HS.out.1 l[i] (List.getElem_mem hlt)
        have hs6 : (eltI).s = 6 := rfl
        rw [Nat.zero_add, hs6] at hbx
        generalize l[i] = x at *
        obtain ⟨op, xa, xb, xc, xn, xs⟩ := x
        have c0 := hbx.c0
        have c1 := hbx.c1
        have c2 := hbx.c2
        have c3 := hbx.c3
        have c4 := hbx.c4
        have c5 := hbx.c5
        dsimp only at c0 c1 c2 c3 c4 c5 hsx
        have HWR : Hid (Below wr.heap.size wr (wr.alloc (.cells #[.int .i64 op, .int .i64 xa, .int .i64 xb, .int .i64 xc, .int .i64 xn, .string xs] 65))) := (Below.refl _ _).alloc (Nat.le_refl _) _
        have HCL : Hid (Calls Tryz.prog 69 #[.string xs] (wr.alloc (.cells #[.int .i64 op, .int .i64 xa, .int .i64 xb, .int .i64 xc, .int .i64 xn, .string xs] 65)) fun e w' => e = .returned (.string xs) ∧ Below wr.heap.size wr w') := (strClone_any xs _ hsx).mono fun e w' ⟨a1, a2⟩ => ⟨a1, HWR.out.trans (a2.mono HWR.out.size)⟩
        have HC5 : Hid (wr.cell? ⟨g, i * 6 + 5, none⟩ = some (.string xs)) := c5
        clear hr hf hg hb hbx hsx hs6
        go_wp2_with (go_at_call 69; fail)
        refine HCL.out.mono ?_
        rintro e w3 ⟨rfl, hb3⟩
        have d5 := keepA hb3 HC5.out
        have f5 : ∀ x, w3.frozen? ⟨g, x, none⟩ = false := fun x => by rw [hb3.frozen (p := ⟨g, x, none⟩) HR.out.2.2.1]; exact HR.out.2.1 x
        have HN : Hid (GR eltI (w3.setCell ⟨g, i * 6 + 5, none⟩ (.string xs)) l [] g 0 ∧ (∀ x, (w3.setCell ⟨g, i * 6 + 5, none⟩ (.string xs)).frozen? ⟨g, x, none⟩ = false) ∧ g < (w3.setCell ⟨g, i * 6 + 5, none⟩ (.string xs)).heap.size ∧ Below w.heap.size w (w3.setCell ⟨g, i * 6 + 5, none⟩ (.string xs))) := by
          refine ⟨GR.keep l [] g 0 (fun x hx => by cases hx) (fun o u _ _ hu => same_cell d5 o u (keepA hb3 hu)) HR.out.1, fun x => by rw [World.frozen?_setCell]; exact f5 x, by rw [World.size_setCell]; have := hb3.size; have := HR.out.2.2.1; omega, ?_⟩
          exact (HR.out.2.2.2.trans (hb3.mono HR.out.2.2.2.size)).setCell (p := ⟨g, i * 6 + 5, none⟩) HB1.out.2.2.2 _
        clear hb3 c0 c1 c2 c3 c4 c5
        go_wp2_with fail
        go_roundw
        case rel => exact ⟨i + 1, by omega, by go_num, HN.out.1, HN.out.2.1, HN.out.2.2.1, HN.out.2.2.2⟩
        case measure => simp [intOf]; omega
      · clear hr hf hg hb
        go_wp2_with fail
        go_ret
        exact ⟨_, c, [g], rfl, .inr ⟨HS.out.2, g, 0, [], rfl, rfl, HR.out.2.1, HR.out.1⟩, by simp, fun b hb => by rw [List.mem_singleton.1 hb]; exact HB1.out.2.2.2, HB1.out.2.1, HB1.out.2.2.1, HR.out.2.2.2⟩
end Go.Proofs.YtjibnlpjpbileaaGreatDoor
namespace Go.Proofs.YtjibnlpjpbileaaGreatDoor
open Go.RowKit Atom
open Go.Proofs.YtjibnlpjpbileaaGreatDoor.Code
set_option linter.unusedVariables false

set_option maxHeartbeats 2000000 in
set_option maxRecDepth 100000 in
theorem outOk_any (l : List Sd) (ao : Option Addr) (cap : Nat) (w : World) (hr : RowS w ao l) (hl : l.length ≤ maxLen) :
    Calls Tryz.prog 77 #[.slice ao l.length cap] w fun e w' => e = .returned (.bool (saidB l)) ∧ Below w.heap.size w w' := by
  have HR : Hid (RowS w ao l) := hr
  clear hr
  unfold maxLen at hl
  by_cases hlong : (500 : Int) < l.length
  · have HF : Hid (saidB l = false) := saidB_long (by omega)
    go_enter Tryz.func77, Tryz.ntmps77
    go_wp2_with fail
    go_ret
    exact ⟨ret_bool HF.out.symm, Below.refl _ _⟩
  go_enter Tryz.func77, Tryz.ntmps77
  go_wp2_with fail
  go_loopw [10] (fun i wr => ∃ k : Nat, k ≤ l.length ∧ i = .int .i64 k ∧ Below w.heap.size w wr ∧ ∀ j (hj : j < l.length), j < k → sdB l[j] = true) (fun i _ => l.length - (intOf i).toNat)
  case atStart => exact ⟨0, Nat.zero_le _, rfl, Below.refl _ _, fun j _ hj => absurd hj (Nat.not_lt_zero _)⟩
  case round =>
    obtain ⟨k, hk, rfl, hb, hn⟩ := hrel
    have HB : Hid (Below w.heap.size w wr) := hb
    have HN : Hid (∀ j (hj : j < l.length), j < k → sdB l[j] = true) := hn
    clear hn hb
    by_cases hlt : k < l.length
    · rcases HR.out.below HB.out with h0 | ⟨b, o, rfl, hrow⟩
      · rw [h0] at hlt; simp at hlt
      have hbx := hrow k hlt
      have HS : Hid (sdB l[k] = true → ∀ j (hj : j < l.length), j < k + 1 → sdB l[j] = true) := fun hq j hj hjk => by
        rcases Nat.lt_or_ge j k with h | h
        · exact HN.out j hj h
        · have : j = k := by omega
          subst this; exact hq
      have HNO : Hid (sdB l[k] = false → saidB l = false) := fun h => saidB_no hlt h
      obtain ⟨tk, tn, ts, tao, tlen, tcap, e0, e1, e2, e3, hv⟩ := hbx.t.cells
      have d0 := hbx.c0
      have d1 := hbx.c1
      have HC : Hid (∀ wc, Below wr.heap.size wr wc → Calls Tryz.prog 90 #[.agg #[.int .i64 tk, .int .i64 tn, .string ts, .slice tao tlen tcap]] wc fun e w' => e = .returned (.bool (okT l[k].t)) ∧ Below wc.heap.size wc w') := fun wc hb => implOk_any l[k].t 0 wc _ (Below.repV hb hv)
      have HD : Hid (sdB l[k] = (decide (1 ≤ l[k].kind ∧ l[k].kind ≤ 3) && (pidB l[k].pid && okT l[k].t))) := rfl
      generalize okT l[k].t = q at HC HD
      generalize l[k].kind = kk at d0 HD
      generalize l[k].pid = pp at d1 HD
      generalize sdB l[k] = sb at HS HNO HD
      clear hrow hbx hv
      have HBX : Hid (Below wr.heap.size wr (wr.alloc (.cells #[.int .i64 kk, .int .i64 pp, .int .i64 tk, .int .i64 tn, .string ts, .slice tao tlen tcap] 96)) ∧ Below w.heap.size w (wr.alloc (.cells #[.int .i64 kk, .int .i64 pp, .int .i64 tk, .int .i64 tn, .string ts, .slice tao tlen tcap] 96))) := ⟨(Below.refl _ _).alloc (Nat.le_refl _) _, HB.out.alloc HB.out.size _⟩
      by_cases h1 : 1 ≤ kk
      rotate_left
      · have HF : Hid (saidB l = false) := HNO.out (by rw [HD.out, decide_eq_false (by omega)]; simp)
        clear HD
        go_wp2_with fail
        go_ret
        exact ⟨ret_bool HF.out.symm, HBX.out.2⟩
      by_cases h1' : kk ≤ 3
      rotate_left
      · have HF : Hid (saidB l = false) := HNO.out (by rw [HD.out, decide_eq_false (by omega)]; simp)
        clear HD
        go_wp2_with fail
        go_ret
        exact ⟨ret_bool HF.out.symm, HBX.out.2⟩
      by_cases h2 : 1 ≤ pp ∧ pp ≤ 99999
      · have i2 : pidB pp = true := decide_eq_true h2
        have HE : Hid (sb = q) := by
          show _ = _
          rw [HD.out, decide_eq_true ⟨h1, h1'⟩, i2]; simp
        clear h2 HD
        cases q
        · have HF : Hid (saidB l = false) := HNO.out HE.out
          go_wp2_with (first | (go_at_call 103; refine (isPid_any _ _).mono ?_; rintro e w' ⟨rfl, hw'⟩; obtain rfl := hw'.symm) | (go_at_call 90; refine (HC.out _ HBX.out.1).mono ?_; rintro e w3 ⟨rfl, hb3⟩; have HB3 : Hid (Below w.heap.size w w3) := HBX.out.2.trans (hb3.mono HBX.out.2.size); clear hb3))
          go_ret
          exact ⟨ret_bool HF.out.symm, HB3.out⟩
        · have HF : Hid (∀ j (hj : j < l.length), j < k + 1 → sdB l[j] = true) := HS.out HE.out
          go_wp2_with (first | (go_at_call 103; refine (isPid_any _ _).mono ?_; rintro e w' ⟨rfl, hw'⟩; obtain rfl := hw'.symm) | (go_at_call 90; refine (HC.out _ HBX.out.1).mono ?_; rintro e w3 ⟨rfl, hb3⟩; have HB3 : Hid (Below w.heap.size w w3) := HBX.out.2.trans (hb3.mono HBX.out.2.size); clear hb3))
          go_roundw
          case rel => exact ⟨k + 1, by omega, by go_num, HB3.out, HF.out⟩
          case measure => simp [intOf]; omega
      · have i2 : pidB pp = false := decide_eq_false h2
        have HF : Hid (saidB l = false) := HNO.out (by rw [HD.out, i2]; simp)
        clear h2 HD
        go_wp2_with (first | (go_at_call 103; refine (isPid_any _ _).mono ?_; rintro e w' ⟨rfl, hw'⟩; obtain rfl := hw'.symm))
        go_ret
        exact ⟨ret_bool HF.out.symm, HBX.out.2⟩
    · have HF : Hid (saidB l = true) := by
        show _ = _
        rw [saidB_is fun j hj => HN.out j hj (by omega)]
        exact decide_eq_true (by omega)
      go_wp2_with fail
      go_ret
      exact ⟨ret_bool HF.out.symm, HB.out⟩

theorem acB_pid {l : List I} {a : Ac} (h : acB l a = true) : 1 ≤ a.pid := by
  by_cases hq : 1 ≤ a.pid ∧ a.pid ≤ 99999
  · exact hq.1
  · rw [acB_no2 hq] at h; cases h
theorem acsB_is {p : Pl} (h1 : p.acts.length ≤ 20) (h2 : ∀ i (hi : i < p.acts.length), ActP p i hi) : acsB p = linkB p.acts := by
  cases h : linkB p.acts
  · refine acsB_no fun q => ?_
    rw [linkB_yes q.2.2] at h; cases h
  · refine acsB_yes ⟨h1, h2, fun i hi => ?_⟩
    cases hb : bothB p.acts p.acts[i]
    · rw [linkB_no hi hb] at h; cases h
    · rfl

set_option maxHeartbeats 4000000 in
set_option maxRecDepth 100000 in
theorem actorsOk_any (p : Pl) (h : Pw) (w : World) (hr : PlR w p h) (hs : PlS p) (hS : Shp w) (hP : Pow w) (hE : Es.Ety w) :
    Calls Tryz.prog 76 #[plV p h] w fun e w' => e = .returned (.bool (acsB p)) ∧ Below w.heap.size w w' := by
  have KAC : Hid (∀ (wc : World), Below w.heap.size w wc → ∀ k (hk : k < p.acts.length) (hh : Wh), AcR wc p.acts[k] hh → Calls Tryz.prog 110 #[.slice h.ca p.code.length h.cc, acV p.acts[k] hh] wc fun e w' => e = .returned (.bool (acB p.code p.acts[k])) ∧ Below wc.heap.size wc w') := fun wc hb k hk hh hac => implActorOk_any p.code h.ca h.cc p.acts[k] hh wc (hr.code.below hb) hr.sm hs.c hac (hs.ax _ (List.getElem_mem hk)).2.2 (hS.below hb) (hP.below hb) (hE.below hb)
  have KLI : Hid (∀ (wc : World), Below w.heap.size w wc → (∀ i (hi : i < p.acts.length), ActP p i hi) → Calls Tryz.prog 111 #[.slice h.aa p.acts.length h.ac] wc fun e w' => e = .returned (.bool (linkB p.acts)) ∧ Below wc.heap.size wc w') := fun wc hb ha => linked_any p.acts h.aa h.ac wc (hr.acts.below hb) hr.a1 (fun i j hi hj hne => unlike ha i j hi hj hne)
  have HNO : Hid (¬ AcsP p → acsB p = false) := acsB_no
  have HIS : Hid (p.acts.length ≤ 20 → (∀ i (hi : i < p.acts.length), ActP p i hi) → acsB p = linkB p.acts) := acsB_is
  have HROW : Hid (∀ wc, Below w.heap.size w wc → RowA wc h.aa p.acts) := fun wc hb => hr.acts.below hb
  have HAT : Hid (∀ k (hk : k < p.acts.length) (y : Int), (k = 0 → y = 0) → (∀ j (hj : j + 1 = k), y = (p.acts[j]'(by omega)).pid) → (ActP p k hk ↔ (y < p.acts[k].pid ∧ p.acts[k].pid < p.next ∧ acB p.code p.acts[k] = true))) := fun k hk y h0 h1 => by
    constructor
    · rintro ⟨a, b, c⟩
      refine ⟨?_, b, a⟩
      rcases Nat.eq_zero_or_pos k with hk0 | hk0
      · have := h0 hk0; have := acB_pid a; omega
      · obtain ⟨m, rfl⟩ : ∃ m, k = m + 1 := ⟨k - 1, by omega⟩
        rw [h1 m rfl]; exact c m rfl
    · rintro ⟨a, b, c⟩
      exact ⟨c, b, fun j hj => by rw [← h1 j hj]; exact a⟩
  have hl := hr.a1
  unfold maxLen at hl
  obtain ⟨code, acts, next, out⟩ := p
  obtain ⟨ca, cc, aa, ac, oa, oc⟩ := h
  dsimp only at hl KAC KLI HNO HIS HROW HAT
  obtain ⟨w0, hw0⟩ : ∃ w0, w0 = w.alloc (.cells #[.slice ca code.length cc, .slice aa acts.length ac, .int .i64 next, .slice oa out.length oc] 32) := ⟨_, rfl⟩
  have hb0 : Below w.heap.size w w0 := by rw [hw0]; exact (Below.refl _ _).alloc (Nat.le_refl _) _
  have HB0 : Hid (Below w.heap.size w w0) := hb0
  have q0 : ∀ x, w0.cell? ⟨w.heap.size, x, none⟩ = (#[.slice ca code.length cc, .slice aa acts.length ac, .int .i64 next, .slice oa out.length oc] : Array Value)[x]? := fun x => by rw [hw0, World.cell?_alloc_new]
  have hz0 : w.heap.size < w0.heap.size := by rw [hw0, World.size_alloc]; omega
  have HQ : Hid (∀ wc, Below w0.heap.size w0 wc → wc.cell? ⟨w.heap.size, 0, none⟩ = some (.slice ca code.length cc) ∧ wc.cell? ⟨w.heap.size, 1, none⟩ = some (.slice aa acts.length ac) ∧ wc.cell? ⟨w.heap.size, 2, none⟩ = some (.int .i64 next)) := fun wc hb => ⟨keepA hb (q0 0), keepA hb (q0 1), keepA hb (q0 2)⟩
  have HW : Hid (∀ wc, Below w0.heap.size w0 wc → Below w.heap.size w wc) := fun wc hb => HB0.out.trans (hb.mono HB0.out.size)
  clear hr hs hb0 q0 hz0 hS hP hE
  by_cases hlong : (20 : Int) < acts.length
  · have HF : Hid (acsB ⟨code, acts, next, out⟩ = false) := HNO.out fun q => by have := q.1; dsimp only at this; omega
    go_enter Tryz.func76, Tryz.ntmps76
    go_wp2_with fail
    rw [← hw0]
    go_ret
    exact ⟨ret_bool HF.out.symm, HB0.out⟩
  have H20 : Hid (acts.length ≤ 20) := by show _ ≤ _; omega
  go_enter Tryz.func76, Tryz.ntmps76
  go_wp2_with fail
  rw [← hw0]
  clear hw0
  go_loopw [3, 13] (fun yv iv wr => ∃ (k : Nat) (y : Int), k ≤ acts.length ∧ iv = .int .i64 k ∧ yv = .int .i64 y ∧ Below w0.heap.size w0 wr ∧ (k = 0 → y = 0) ∧ (∀ j (hj : j < acts.length), j + 1 = k → y = acts[j].pid) ∧ ∀ j (hj : j < acts.length), j < k → ActP ⟨code, acts, next, out⟩ j hj) (fun _ iv _ => acts.length - (intOf iv).toNat)
  case atStart => exact ⟨0, 0, Nat.zero_le _, rfl, rfl, Below.refl _ _, fun _ => rfl, fun j _ hj => absurd hj (by omega), fun j _ hj => absurd hj (Nat.not_lt_zero _)⟩
  case round =>
    obtain ⟨k, y, hk, rfl, rfl, hb, hy0, hy1, hn⟩ := hrel
    have HB : Hid (Below w0.heap.size w0 wr) := hb
    have HN : Hid (∀ j (hj : j < acts.length), j < k → ActP ⟨code, acts, next, out⟩ j hj) := hn
    obtain ⟨d0, d1, d2⟩ := HQ.out wr hb
    clear hn hb
    by_cases hlt : k < acts.length
    · rcases HROW.out wr (HW.out _ HB.out) with h0' | ⟨b, o, rfl, hrow⟩
      · rw [h0'] at hlt; simp at hlt
      obtain ⟨hh, hbx, hac⟩ := hrow k hlt
      have HATK := HAT.out k hlt y hy0 (fun j hj => hy1 j (by omega) hj)
      have HS : Hid (ActP ⟨code, acts, next, out⟩ k hlt → ∀ j (hj : j < acts.length), j < k + 1 → ActP ⟨code, acts, next, out⟩ j hj) := fun hq j hj hjk => by
        rcases Nat.lt_or_ge j k with h | h
        · exact HN.out j hj h
        · have : j = k := by omega
          subst this; exact hq
      have HX : Hid (¬ ActP ⟨code, acts, next, out⟩ k hlt → acsB ⟨code, acts, next, out⟩ = false) := fun hq => HNO.out fun q => hq (q.2.1 k hlt)
      have HL : Hid (∀ j (hj : j < acts.length), j + 1 = k + 1 → acts[k].pid = acts[j].pid) := fun j hj hjk => by
        have : j = k := by omega
        subst this; rfl
      have c0 := hbx.c0
      have c1 := hbx.c1
      have c2 := hbx.c2
      have c3 := hbx.c3
      have c4 := hbx.c4
      obtain ⟨wa, hwa⟩ : ∃ wa, wa = wr.alloc (.cells #[.int .i64 acts[k].pid, .int .i64 acts[k].pc, .slice hh.ra acts[k].regs.length hh.rc, .slice hh.ba acts[k].box.length hh.bc, .slice hh.la acts[k].N hh.lc] 61) := ⟨_, rfl⟩
      have hba : Below wr.heap.size wr wa := by rw [hwa]; exact (Below.refl _ _).alloc (Nat.le_refl _) _
      have HBA : Hid (Below w0.heap.size w0 wa) := HB.out.trans (hba.mono HB.out.size)
      have KA : Hid (Calls Tryz.prog 110 #[.slice ca code.length cc, .agg #[.int .i64 acts[k].pid, .int .i64 acts[k].pc, .slice hh.ra acts[k].regs.length hh.rc, .slice hh.ba acts[k].box.length hh.bc, .slice hh.la acts[k].N hh.lc]] wa fun e w' => e = .returned (.bool (acB code acts[k])) ∧ Below wa.heap.size wa w') := KAC.out wa (HW.out _ HBA.out) k hlt hh (hac.below hba)
      have HQA : Hid (∀ wc, Below wa.heap.size wa wc → wc.cell? ⟨wr.heap.size, 0, none⟩ = some (.int .i64 acts[k].pid)) := fun wc hb => keepA hb (by rw [hwa, World.cell?_alloc_new]; rfl)
      have g0 := keepA hba d0
      have g2 := keepA hba d2
      rw [hwa] at g0 g2
      clear hbx hac hrow hba hy0 hy1
      generalize acB code acts[k] = qA at *
      generalize acts[k].pid = pid at *
      generalize acts[k].pc = pc at *
      generalize acts[k].regs.length = nR at *
      generalize acts[k].box.length = nB at *
      generalize acts[k].N = nL at *
      by_cases h1 : y < pid
      rotate_left
      · have HF : Hid (acsB ⟨code, acts, next, out⟩ = false) := HX.out fun q => h1 (HATK.1 q).1
        clear HATK
        go_wp2_with fail
        rw [← hwa]
        go_ret
        exact ⟨ret_bool HF.out.symm, HW.out _ HBA.out⟩
      by_cases h2 : pid < next
      rotate_left
      · have HF : Hid (acsB ⟨code, acts, next, out⟩ = false) := HX.out fun q => h2 (HATK.1 q).2.1
        clear HATK
        go_wp2_with fail
        rw [← hwa]
        go_ret
        exact ⟨ret_bool HF.out.symm, HW.out _ HBA.out⟩
      have HY : Hid (qA = true → ActP ⟨code, acts, next, out⟩ k hlt) := fun hq => HATK.2 ⟨h1, h2, hq⟩
      have HZ : Hid (qA = false → ¬ ActP ⟨code, acts, next, out⟩ k hlt) := fun hq q => by have := (HATK.1 q).2.2; rw [hq] at this; cases this
      clear HATK
      go_wp2_with (go_at_call 110; fail)
      rw [← hwa]
      clear hwa
      refine KA.out.mono ?_
      rintro e w3 ⟨rfl, hb3⟩
      have HB3 : Hid (Below w0.heap.size w0 w3) := HBA.out.trans (hb3.mono HBA.out.size)
      have a0 := HQA.out w3 hb3
      clear hb3 c0 c1 c2 c3 c4 d0 d1 d2 g0 g2
      cases qA
      · have HF : Hid (acsB ⟨code, acts, next, out⟩ = false) := HX.out (HZ.out (by trivial))
        go_wp2_with fail
        go_ret
        exact ⟨ret_bool HF.out.symm, HW.out _ HB3.out⟩
      · have HF : Hid (∀ j (hj : j < acts.length), j < k + 1 → ActP ⟨code, acts, next, out⟩ j hj) := HS.out (HY.out (by trivial))
        go_wp2_with fail
        go_roundw
        case rel => exact ⟨k + 1, pid, by omega, by go_num, rfl, HB3.out, fun h => absurd h (by omega), HL.out, HF.out⟩
        case measure => simp [intOf]; omega
    · have hall : ∀ i (hi : i < acts.length), ActP ⟨code, acts, next, out⟩ i hi := fun i hi => HN.out i hi (by omega)
      have HF : Hid (acsB ⟨code, acts, next, out⟩ = linkB acts) := HIS.out H20.out hall
      have KL : Hid (Calls Tryz.prog 111 #[.slice aa acts.length ac] wr fun e w' => e = .returned (.bool (linkB acts)) ∧ Below wr.heap.size wr w') := KLI.out wr (HW.out _ HB.out) hall
      clear hall hy0 hy1
      generalize linkB acts = q at *
      go_wp2_with (go_at_call 111; refine KL.out.mono ?_; rintro e w3 ⟨rfl, hb3⟩; have HB3 : Hid (Below w0.heap.size w0 w3) := HB.out.trans (hb3.mono HB.out.size); clear hb3)
      go_ret
      exact ⟨ret_bool HF.out.symm, HW.out _ HB3.out⟩

set_option maxHeartbeats 4000000 in
set_option maxRecDepth 100000 in
theorem implPlainOk_any (p : Pl) (h : Pw) (w : World) (hr : PlR w p h) (hs : PlS p) (hS : Shp w) (hP : Pow w) (hE : Es.Ety w) :
    Calls Tryz.prog 36 #[plV p h] w fun e w' => e = .returned (.bool (plB p)) ∧ Below w.heap.size w w' := by
  have KCO : Hid (∀ (wc : World), Below w.heap.size w wc → Calls Tryz.prog 75 #[.slice h.ca p.code.length h.cc] wc fun e w' => e = .returned (.bool (codeB p.code)) ∧ Below wc.heap.size wc w') := fun wc hb => implCode_any p.code h.ca h.cc wc (hr.code.below hb) hr.sm hr.c1 (hS.below hb) (hP.below hb) (hE.below hb)
  have KAC : Hid (∀ (wc : World), Below w.heap.size w wc → Calls Tryz.prog 76 #[plV p h] wc fun e w' => e = .returned (.bool (acsB p)) ∧ Below wc.heap.size wc w') := fun wc hb => actorsOk_any p h wc (hr.below hb) hs (hS.below hb) (hP.below hb) (hE.below hb)
  have KOU : Hid (∀ (wc : World), Below w.heap.size w wc → Calls Tryz.prog 77 #[.slice h.oa p.out.length h.oc] wc fun e w' => e = .returned (.bool (saidB p.out)) ∧ Below wc.heap.size wc w') := fun wc hb => outOk_any p.out h.oa h.oc wc (hr.out.below hb) hr.o1
  have HNO : Hid (¬ PlP p → plB p = false) := plB_no
  have HIS : Hid (codeB p.code = true → (1 ≤ p.next ∧ p.next ≤ 90000) → acsB p = true → plB p = saidB p.out) := plB_is
  have HNA : Hid (acsB p = false → ¬ PlP p) := fun hq q => by rw [acsB_yes q.2.2.1] at hq; cases hq
  obtain ⟨code, acts, next, out⟩ := p
  obtain ⟨ca, cc, aa, ac, oa, oc⟩ := h
  dsimp only at KCO KAC KOU HNO HIS HNA
  obtain ⟨w0, hw0⟩ : ∃ w0, w0 = w.alloc (.cells #[.slice ca code.length cc, .slice aa acts.length ac, .int .i64 next, .slice oa out.length oc] 32) := ⟨_, rfl⟩
  have hb0 : Below w.heap.size w w0 := by rw [hw0]; exact (Below.refl _ _).alloc (Nat.le_refl _) _
  have HB0 : Hid (Below w.heap.size w w0) := hb0
  have q0 : ∀ x, w0.cell? ⟨w.heap.size, x, none⟩ = (#[.slice ca code.length cc, .slice aa acts.length ac, .int .i64 next, .slice oa out.length oc] : Array Value)[x]? := fun x => by rw [hw0, World.cell?_alloc_new]
  have HQ : Hid (∀ wc, Below w0.heap.size w0 wc → wc.cell? ⟨w.heap.size, 0, none⟩ = some (.slice ca code.length cc) ∧ wc.cell? ⟨w.heap.size, 1, none⟩ = some (.slice aa acts.length ac) ∧ wc.cell? ⟨w.heap.size, 2, none⟩ = some (.int .i64 next) ∧ wc.cell? ⟨w.heap.size, 3, none⟩ = some (.slice oa out.length oc)) := fun wc hb => ⟨keepA hb (q0 0), keepA hb (q0 1), keepA hb (q0 2), keepA hb (q0 3)⟩
  have HW : Hid (∀ wc, Below w0.heap.size w0 wc → Below w.heap.size w wc) := fun wc hb => HB0.out.trans (hb.mono HB0.out.size)
  clear hr hs hb0 q0 hS hP hE
  go_enter Tryz.func36, Tryz.ntmps36
  go_wp2_with (go_at_call 75; fail)
  rw [← hw0]
  clear hw0
  refine (KCO.out w0 HB0.out).mono ?_
  rintro e w1 ⟨he, hb1⟩
  have HB1 : Hid (Below w0.heap.size w0 w1) := hb1
  obtain ⟨d0, d1, d2, d3⟩ := HQ.out w1 hb1
  clear hb1
  cases hc : codeB code
  · rw [hc] at he; subst he
    have HF : Hid (plB ⟨code, acts, next, out⟩ = false) := HNO.out fun q => by have := q.1; dsimp only at this; rw [hc] at this; cases this
    clear hc
    go_wp2_with fail
    go_ret
    exact ⟨ret_bool HF.out.symm, HW.out _ HB1.out⟩
  rw [hc] at he; subst he
  have HC1 : Hid (codeB code = true) := hc
  clear hc
  by_cases h2 : 1 ≤ next
  rotate_left
  · have HF : Hid (plB ⟨code, acts, next, out⟩ = false) := HNO.out fun q => h2 q.2.1.1
    go_wp2_with fail
    go_ret
    exact ⟨ret_bool HF.out.symm, HW.out _ HB1.out⟩
  by_cases h3 : next ≤ 90000
  rotate_left
  · have HF : Hid (plB ⟨code, acts, next, out⟩ = false) := HNO.out fun q => h3 q.2.1.2
    go_wp2_with fail
    go_ret
    exact ⟨ret_bool HF.out.symm, HW.out _ HB1.out⟩
  go_wp2_with (go_at_call 76; fail)
  refine (KAC.out w1 (HW.out _ HB1.out)).mono ?_
  rintro e w2 ⟨he, hb2⟩
  have HB2 : Hid (Below w0.heap.size w0 w2) := HB1.out.trans (hb2.mono HB1.out.size)
  clear hb2 d0 d1 d2 d3
  obtain ⟨d0, d1, d2, d3⟩ := HQ.out w2 HB2.out
  cases h4 : acsB ⟨code, acts, next, out⟩
  · rw [h4] at he; subst he
    have HF : Hid (plB ⟨code, acts, next, out⟩ = false) := HNO.out (HNA.out h4)
    clear h4
    go_wp2_with fail
    go_ret
    exact ⟨ret_bool HF.out.symm, HW.out _ HB2.out⟩
  rw [h4] at he; subst he
  have HF : Hid (plB ⟨code, acts, next, out⟩ = saidB out) := HIS.out HC1.out ⟨h2, h3⟩ h4
  clear h4
  go_wp2_with (go_at_call 77; fail)
  refine (KOU.out w2 (HW.out _ HB2.out)).mono ?_
  rintro e w3 ⟨rfl, hb3⟩
  have HB3 : Hid (Below w0.heap.size w0 w3) := HB2.out.trans (hb3.mono HB2.out.size)
  clear hb3 d0 d1 d2 d3
  generalize saidB out = q at *
  go_wp2_with fail
  go_ret
  exact ⟨ret_bool HF.out.symm, HW.out _ HB3.out⟩
end Go.Proofs.YtjibnlpjpbileaaGreatDoor
