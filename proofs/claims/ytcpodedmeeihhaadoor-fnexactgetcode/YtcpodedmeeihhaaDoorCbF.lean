/-
  Code read of bytes: what the program's getNums and getIns answer.
-/
import Derived.Test.YtcpodedmeeihhaaDoorCbE
import Derived.Test.YtcpodedmeeihhaaDoorByG
namespace Go.Proofs.YtcpodedmeeihhaaDoor.Cb
open Go.RowKit
open Go.Proofs.YtcpodedmeeihhaaDoor.By
open Go.Proofs.YtcpodedmeeihhaaDoor.Code (I codeB specOk RowI SmI Bx6)
set_option linter.unusedVariables false

/-- Where the j-th of six numbers is wanted. -/
def pAt (X Y j : Nat) : Addr := if j < 5 then ⟨X, j, none⟩ else ⟨Y, 0, none⟩
/-- What getNums has done so far: the numbers ns stand where they are wanted. -/
structure Gn (w wr : World) (X Y : Nat) (ns : List Int) : Prop where
  os : wr.os = w.os
  tape : wr.tape = w.tape
  output : wr.output = w.output
  size : wr.heap.size = w.heap.size
  blk : ∀ k, k ≠ X → k ≠ Y → wr.heap[k]? = w.heap[k]?
  old : ∀ j, j < 6 → ∃ v, wr.cell? (pAt X Y j) = some v
  new : ∀ j (h : j < ns.length), j < 6 → wr.cell? (pAt X Y j) = some (.int .i64 ns[j])
  last : wr.cell? ⟨X, 5, none⟩ = w.cell? ⟨X, 5, none⟩
  fx : ∀ o, wr.frozen? ⟨X, o, none⟩ = false
  fy : ∀ o, wr.frozen? ⟨Y, o, none⟩ = false
theorem pAt_ne {X Y i j : Nat} (hXY : X ≠ Y) (hi : i < 6) (hj : j < 6) (h : j ≠ i) : pAt X Y j ≠ pAt X Y i := by
  unfold pAt
  intro e
  by_cases h1 : j < 5
  · by_cases h2 : i < 5
    · rw [if_pos h1, if_pos h2] at e; injection e with _ e; omega
    · rw [if_pos h1, if_neg h2] at e; injection e with e; omega
  · by_cases h2 : i < 5
    · rw [if_neg h1, if_pos h2] at e; injection e with e; omega
    · omega
theorem Gn.put {w wr : World} {X Y : Nat} {ns : List Int} (h : Gn w wr X Y ns) (hXY : X ≠ Y) (hl : ns.length < 6) (n : Int) : Gn w (wr.setCell (pAt X Y ns.length) (.int .i64 n)) X Y (ns ++ [n]) := by
  have hblk : (pAt X Y ns.length).block = X ∨ (pAt X Y ns.length).block = Y := by unfold pAt; split <;> simp
  have h5 : (⟨X, 5, none⟩ : Addr) ≠ pAt X Y ns.length := by
    unfold pAt; split
    · intro e; injection e with _ e; omega
    · intro e; injection e with e; omega
  refine ⟨h.os, h.tape, h.output, by rw [World.size_setCell]; exact h.size, fun k hX hY => ?_, fun j hj => ?_, fun j hj hj6 => ?_, ?_, fun o => by rw [World.frozen?_setCell]; exact h.fx o, fun o => by rw [World.frozen?_setCell]; exact h.fy o⟩
  · rw [Below.heap_setCell wr (pAt X Y ns.length) _ k (by rcases hblk with e | e <;> rw [e] <;> assumption)]; exact h.blk k hX hY
  · obtain ⟨v, hv⟩ := h.old j hj
    by_cases e : j = ns.length
    · subst e
      exact ⟨_, World.cell?_setCell_same wr _ _ hv⟩
    · exact ⟨v, by rw [World.cell?_setCell_other (h := (pAt_ne hXY hl hj e).symm)]; exact hv⟩
  · by_cases e : j = ns.length
    · subst e
      obtain ⟨v, hv⟩ := h.old ns.length hl
      rw [World.cell?_setCell_same wr _ _ hv]
      simp
    · have hj2 : j < ns.length := by simp at hj; omega
      rw [World.cell?_setCell_other (h := (pAt_ne hXY hl hj6 e).symm), h.new j hj2 hj6, List.getElem_append_left hj2]
  · rw [World.cell?_setCell_other (h := h5.symm)]; exact h.last

/-- What getNums answers. -/
def GnP (L : List UInt8) (a : Int) (w : World) (X Y : Nat) (e : Ending) (w' : World) : Prop :=
  (∃ ns b, rdNs L 6 a = some (ns, b) ∧ e = .returned (.tuple #[.int .i64 b, .bool true]) ∧ Gn w w' X Y ns) ∨
  (rdNs L 6 a = none ∧ e = .returned (.tuple #[.int .i64 0, .bool false]) ∧ ∃ ns, Gn w w' X Y ns)

set_option maxHeartbeats 2000000 in
set_option maxRecDepth 100000 in
theorem getNums_any (ao : Option Addr) (cap : Nat) (L : List UInt8) (a : Int) (X Y P : Nat) (w : World) (hr : L.length ≠ 0 → ∃ b o, ao = some ⟨b, o, none⟩ ∧ b ≠ X ∧ b ≠ Y ∧ BAt w b o L) (hN : L.length ≤ 1048600) (hcap : L.length ≤ cap) (hXY : X ≠ Y) (hPX : P ≠ X) (hPY : P ≠ Y)
    (hp : ∀ j, j < 6 → w.cell? ⟨P, j, none⟩ = some (.pointer (some (pAt X Y j)))) (hg : Gn w w X Y []) :
    Calls Tryd.prog 38 #[.slice ao L.length cap, .int .i64 a, .slice (some ⟨P, 0, none⟩) 6 6] w fun e w' => GnP L a w X Y e w' := by
  have HR : Hid (L.length ≠ 0 → ∃ b o, ao = some ⟨b, o, none⟩ ∧ b ≠ X ∧ b ≠ Y ∧ BAt w b o L) := hr
  have HP : Hid (∀ j, j < 6 → w.cell? ⟨P, j, none⟩ = some (.pointer (some (pAt X Y j)))) := hp
  have HG : Hid (Gn w w X Y []) := hg
  have HX : Hid (X ≠ Y ∧ P ≠ X ∧ P ≠ Y) := ⟨hXY, hPX, hPY⟩
  have HA0 : Hid (addNs [] (rdNs L 6 a) = rdNs L 6 a) := addNs_nil _
  have HRD : Hid (∀ wr ns, Gn w wr X Y ns → RdB wr ao L) := fun wr ns h h0 => by
    obtain ⟨b, o, e, h1, h2, hb⟩ := HR.out h0
    exact ⟨b, o, e, fun j hj => by rw [World.cell?_of_block (w := w) (h.blk b h1 h2)]; exact hb j hj⟩
  have HPR : Hid (∀ wr ns j, Gn w wr X Y ns → j < 6 → wr.cell? ⟨P, j, none⟩ = some (.pointer (some (pAt X Y j)))) := fun wr ns j h hj => by
    rw [World.cell?_of_block (w := w) (h.blk P HX.out.2.1 HX.out.2.2)]; exact HP.out j hj
  clear hr hXY hPX hPY hp hg
  go_enter Tryd.func38, Tryd.ntmps38
  go_wp2_with fail
  go_loopw [1, 9, 10, 13] (fun av _ _ iv wr => ∃ (ns : List Int) (b : Int), ns.length ≤ 6 ∧ iv = .int .i64 ns.length ∧ av = .int .i64 b ∧ addNs ns (rdNs L (6 - ns.length) b) = rdNs L 6 a ∧ Gn w wr X Y ns) (fun _ _ _ iv _ => 6 - (intOf iv).toNat)
  case atStart => exact ⟨[], a, Nat.zero_le _, rfl, rfl, HA0.out, HG.out⟩
  case round =>
    obtain ⟨ns, b, hl, rfl, rfl, hE, hgn⟩ := hrel
    have HE : Hid (addNs ns (rdNs L (6 - ns.length) b) = rdNs L 6 a) := hE
    have HGN : Hid (Gn w wr X Y ns) := hgn
    by_cases hlt : ns.length < 6
    · have q := HPR.out wr ns ns.length hgn hlt
      obtain ⟨v, hv⟩ := hgn.old ns.length hlt
      have hfz : wr.frozen? (pAt X Y ns.length) = false := by
        unfold pAt; split
        · exact hgn.fx _
        · exact hgn.fy _
      have HRB : Hid (RdB wr ao L) := HRD.out wr ns hgn
      clear hE hgn
      generalize hpp : pAt X Y ns.length = p at *
      have HPP : Hid (pAt X Y ns.length = p) := hpp
      clear hpp
      obtain ⟨pb, po, ps⟩ := p
      obtain rfl : ps = none := World.cell?_spot hv
      cases hgb : getB L b with
      | none =>
        have HN0 : Hid (rdNs L 6 a = none) := by
          show _ = _
          rw [← HE.out, show 6 - ns.length = (5 - ns.length) + 1 by omega]
          exact addNs_none L ns _ b hgb
        have HC : Hid (∀ w', w' = wr → Calls Tryd.prog 28 #[.slice ao L.length cap, .int .i64 b] w' fun e w'' => e = .returned (.tuple #[.int .i64 0, .int .i64 0, .bool false]) ∧ w'' = w') := fun w' h => by
          subst h
          have := implGet_any ao cap L b w' HRB.out hN hcap
          rw [hgb] at this; exact this
        have HG2 : Hid (Gn w (wr.setCell ⟨pb, po, none⟩ (.int .i64 0)) X Y (ns ++ [0])) := by
          have := HGN.out.put HX.out.1 hlt 0
          rw [HPP.out] at this; exact this
        clear hgb
        go_wp2_with (go_at_call 28; refine (HC.out _ rfl).mono ?_; rintro e w2 ⟨rfl, hw2⟩; obtain rfl := hw2.symm)
        refine bodyPost_ret (v := .tuple #[.int .i64 0, .bool false]) (by simp [results, Tryd.results38, go_sem]) rfl (.inr ⟨HN0.out, rfl, _, HG2.out⟩)
      | some q2 =>
        obtain ⟨n, e⟩ := q2
        have HC : Hid (∀ w', w' = wr → Calls Tryd.prog 28 #[.slice ao L.length cap, .int .i64 b] w' fun e' w'' => e' = .returned (.tuple #[.int .i64 n, .int .i64 e, .bool true]) ∧ w'' = w') := fun w' h => by
          subst h
          have := implGet_any ao cap L b w' HRB.out hN hcap
          rw [hgb] at this; exact this
        have HG2 : Hid (Gn w (wr.setCell ⟨pb, po, none⟩ (.int .i64 n)) X Y (ns ++ [n])) := by
          have := HGN.out.put HX.out.1 hlt n
          rw [HPP.out] at this; exact this
        have HE2 : Hid (addNs (ns ++ [n]) (rdNs L (6 - (ns ++ [n]).length) e) = rdNs L 6 a) := by
          show _ = _
          rw [← HE.out, show 6 - ns.length = (5 - ns.length) + 1 by omega, addNs_step L ns _ b n e hgb]
          congr 2
          simp
          try omega
        have HL2 : Hid ((ns ++ [n]).length = ns.length + 1) := by show _ = _; simp
        clear hgb
        go_wp2_with (go_at_call 28; refine (HC.out _ rfl).mono ?_; rintro e w2 ⟨rfl, hw2⟩; obtain rfl := hw2.symm)
        go_roundw
        case rel => exact ⟨ns ++ [n], e, by rw [HL2.out]; omega, by rw [HL2.out]; go_num, rfl, HE2.out, HG2.out⟩
        case measure => simp [intOf]; omega
    · have h6 : ns.length = 6 := by omega
      have HEE : Hid (rdNs L 6 a = some (ns, b)) := by
        have := HE.out
        rw [h6] at this
        show _ = _
        rw [← this]; simp [rdNs, addNs]
      clear hE hgn
      rw [h6]
      go_wp2_with fail
      refine bodyPost_ret (v := .tuple #[.int .i64 b, .bool true]) (by simp [results, Tryd.results38, go_sem]) rfl (.inl ⟨ns, b, HEE.out, rfl, HGN.out⟩)

/-- What getIns answers. -/
def ansI (o : Option (I × Int)) : Value := match o with
  | none => .tuple #[.agg #[.int .i64 0, .int .i64 0, .int .i64 0, .int .i64 0, .int .i64 0, .string ⟨#[]⟩], .int .i64 0, .bool false]
  | some (x, e) => .tuple #[.agg #[.int .i64 x.op, .int .i64 x.a, .int .i64 x.b, .int .i64 x.c, .int .i64 x.n, .string x.s], .int .i64 e, .bool true]
theorem bat_part {w : World} {b o : Nat} {L : List UInt8} (h : BAt w b o L) (i n : Nat) : BAt w b (o + i) ((L.drop i).take n) := fun j hj => by
  have hj2 : i + j < L.length := by simp at hj; omega
  have := h (i + j) hj2
  rw [Nat.add_assoc]
  simp only [List.getElem_take, List.getElem_drop]
  exact this
theorem conv_part (W : World) (b o n cap : Nat) (l : List UInt8) (hl : l.length = n) (h : BAt W b o l) :
    (convert 24 9 (.slice (some ⟨b, o, none⟩) n cap)).run Tryd.prog W = .ok (.string ⟨l.toArray⟩) W := by
  subst hl
  exact run_convert_bytes_back (P := Tryd.prog) W 24 9 5 ⟨b, o, none⟩ cap l Tryd.underlying24 Tryd.underlying5 Tryd.underlying9 (fun j hj => by rw [Addr.add_lit]; exact h j hj)

theorem setBlk {w : World} {R : Nat} {cs : Array Value} {t : TypeId} {f : Nat × Nat} (h : w.heap[R]? = some (.cells cs t f)) {i : Nat} (v : Value) : (w.setCell ⟨R, i, none⟩ v).heap[R]? = some (.cells (cs.setIfInBounds i v) t f) := by
  simp [World.setCell, Array.getElem?_modify, h]
theorem six_blk {w : World} {R : Nat} {a0 b0 c0 d0 e0 g0 : Value} {t : TypeId} {f : Nat × Nat} (h : w.heap[R]? = some (.cells #[a0, b0, c0, d0, e0, g0] t f)) (a b c d e g : Value) :
    ((((((w.setCell ⟨R, 0, none⟩ a).setCell ⟨R, 1, none⟩ b).setCell ⟨R, 2, none⟩ c).setCell ⟨R, 3, none⟩ d).setCell ⟨R, 4, none⟩ e).setCell ⟨R, 5, none⟩ g).heap[R]? = some (.cells #[a, b, c, d, e, g] t f) := by
  rw [setBlk (setBlk (setBlk (setBlk (setBlk (setBlk h a) b) c) d) e) g]; rfl
theorem drew_heap {W : World} {R : Nat} {o : Option Obj} (h : W.heap[R]? = o) : W.drew.heap[R]? = o := h
theorem results_cell_tmp2 {fn : Func} {p u v : Tmp} {ty : TypeId} (h : fn.results = #[.cell p ty, .tmp u, .tmp v]) (tmps : Array Value) (P : Program) (w : World) :
    (results fn tmps).run P w =
      ((asAddr (tmps.getD p undef)).run P w).andThen fun a w₁ => ((loadVar ty a).run P w₁).andThen fun x w₂ => .ok (.tuple #[x, tmps.getD u undef, tmps.getD v undef]) w₂ := by
  simp only [results, h]
  simp [Sem.run_bind, Result.andThen]
theorem res_ins3 {w : World} {R : Nat} {a b c d e g : Value} {tmps : Array Value} {fn : Func} {p : Int} {q : Bool} (hf : fn.results = #[.cell 4 42, .tmp 5, .tmp 6]) (h : w.heap[R]? = some (.cells #[a, b, c, d, e, g] 42 (0, 0)))
    (h4 : tmps.getD 4 undef = .pointer (some ⟨R, 0, none⟩)) (h5 : tmps.getD 5 undef = .int .i64 p) (h6 : tmps.getD 6 undef = .bool q) : (results fn tmps).run Tryd.prog w = .ok (.tuple #[.agg #[a, b, c, d, e, g], .int .i64 p, .bool q]) w := by
  rw [results_cell_tmp2 hf, h4, h5, h6]
  simp [asAddr, Result.andThen, run_loadVar_row w R 42 42 #[a, b, c, d, e, g] (0, 0) _ h Tryd.underlying42 rfl (by kernel_rfl)]
theorem run_cutB (b o len cap i n : Nat) (hc : i + n ≤ cap) (W : World) :
    (Instr.slice 24 (.slice (some ⟨b, o, none⟩) len cap) (some (.int .i64 (i : Int))) (some (.int .i64 ((i : Int) + (n : Int)))) none).run Tryd.prog W = .ok (.slice (some ⟨b, if cap = i then o else o + i, none⟩) n (cap - i)) W := by
  have hs : (sizeOf (Tryd.prog.elem 24)).run Tryd.prog W = .ok 1 W := by kernel_rfl
  have h := run_slice_lh (P := Tryd.prog) (w := W) (t := 24) (a := some ⟨b, o, none⟩) (len := len) (cap := cap) (by kernel_rfl) .i64 .i64 (i : Int) ((i : Int) + (n : Int)) (by omega) (by omega) (by omega)
  rw [h, hs]
  have e1 : ((i : Int) + (n : Int)).toNat = i + n := by omega
  simp only [Result.andThen, sliced, Int.toNat_natCast, e1]
  by_cases hci : cap = i
  · rw [if_pos hci, if_pos hci]; simp
  · rw [if_neg hci, if_neg hci]; simp [Addr.add]

/-- Four new blocks. -/
theorem four_new (w : World) (A B C D : Array Value) (ta tb tc td : TypeId) :
    let W := (((w.alloc (.cells A ta)).alloc (.cells B tb)).alloc (.cells C tc)).alloc (.cells D td)
    W.heap[w.heap.size]? = some (.cells A ta (0, 0)) ∧ W.heap[w.heap.size + 1]? = some (.cells B tb (0, 0)) ∧ W.heap[w.heap.size + 1 + 1]? = some (.cells C tc (0, 0)) ∧ W.heap[w.heap.size + 1 + 1 + 1]? = some (.cells D td (0, 0)) ∧ Below w.heap.size w W ∧ W.heap.size = w.heap.size + 1 + 1 + 1 + 1 := by
  intro W
  have z1 : (w.alloc (.cells A ta)).heap.size = w.heap.size + 1 := World.size_alloc _ _
  have z2 : ((w.alloc (.cells A ta)).alloc (.cells B tb)).heap.size = w.heap.size + 1 + 1 := by rw [World.size_alloc, z1]
  have z3 : (((w.alloc (.cells A ta)).alloc (.cells B tb)).alloc (.cells C tc)).heap.size = w.heap.size + 1 + 1 + 1 := by rw [World.size_alloc, z2]
  have k1 : ∀ k, k < w.heap.size + 1 → ((w.alloc (.cells A ta)).alloc (.cells B tb)).heap[k]? = (w.alloc (.cells A ta)).heap[k]? := fun k hk => ((Below.refl _ _).alloc (Nat.le_refl _) _).block k (by rw [z1]; exact hk)
  have k2 : ∀ k, k < w.heap.size + 1 + 1 → (((w.alloc (.cells A ta)).alloc (.cells B tb)).alloc (.cells C tc)).heap[k]? = ((w.alloc (.cells A ta)).alloc (.cells B tb)).heap[k]? := fun k hk => ((Below.refl _ _).alloc (Nat.le_refl _) _).block k (by rw [z2]; exact hk)
  have k3 : ∀ k, k < w.heap.size + 1 + 1 + 1 → W.heap[k]? = (((w.alloc (.cells A ta)).alloc (.cells B tb)).alloc (.cells C tc)).heap[k]? := fun k hk => ((Below.refl _ _).alloc (Nat.le_refl _) _).block k (by rw [z3]; exact hk)
  refine ⟨?_, ?_, ?_, ?_, (((Below.refl w.heap.size w).alloc (Nat.le_refl _) _).alloc (by rw [World.size_alloc]; omega) _).alloc (by rw [World.size_alloc, World.size_alloc]; omega) _ |>.alloc (by rw [World.size_alloc, World.size_alloc, World.size_alloc]; omega) _, by rw [World.size_alloc, World.size_alloc, World.size_alloc, World.size_alloc]⟩
  · rw [k3 _ (by omega), k2 _ (by omega), k1 _ (by omega)]; exact heap_alloc_new w _
  · rw [k3 _ (by omega), k2 _ (by omega)]
    have := heap_alloc_new (w.alloc (.cells A ta)) (.cells B tb)
    rw [z1] at this; exact this
  · rw [k3 _ (by omega)]
    have := heap_alloc_new ((w.alloc (.cells A ta)).alloc (.cells B tb)) (.cells C tc)
    rw [z2] at this; exact this
  · have := heap_alloc_new (((w.alloc (.cells A ta)).alloc (.cells B tb)).alloc (.cells C tc)) (.cells D td)
    rw [z3] at this; exact this
theorem cell_blk {w : World} {R o : Nat} {cs : Array Value} {t : TypeId} {f : Nat × Nat} (h : w.heap[R]? = some (.cells cs t f)) : w.cell? ⟨R, o, none⟩ = cs[o]? := by simp [World.cell?, h]
theorem free_blk {w : World} {R o : Nat} {cs : Array Value} {t : TypeId} (h : w.heap[R]? = some (.cells cs t (0, 0))) : w.frozen? ⟨R, o, none⟩ = false := by simp [World.frozen?, h]

set_option maxHeartbeats 2000000 in
set_option maxRecDepth 100000 in
theorem getIns_any (ao : Option Addr) (cap : Nat) (L : List UInt8) (a : Int) (w : World) (hr : RdB w ao L) (hN : L.length ≤ 1048600) (hcap : L.length ≤ cap) :
    Calls Tryd.prog 29 #[.slice ao L.length cap, .int .i64 a] w fun e w' => e = .returned (ansI (rdI L (L.length + 100) a)) ∧ Below w.heap.size w w' := by
  have HR : Hid (RdB w ao L) := hr
  clear hr
  go_enter Tryd.func29, Tryd.ntmps29
  go_wp2_with fail
  obtain ⟨b0, b1, b2, b3, hbl, hsz⟩ := four_new w #[.int .i64 0, .int .i64 0, .int .i64 0, .int .i64 0, .int .i64 0, .string ⟨#[]⟩] #[.int .i64 0, .int .i64 0, .int .i64 0, .int .i64 0, .int .i64 0, .string ⟨#[]⟩] #[.int .i64 0] #[.pointer (some ⟨w.heap.size + 1, 0, none⟩), .pointer (some ⟨w.heap.size + 1, 1, none⟩), .pointer (some ⟨w.heap.size + 1, 2, none⟩), .pointer (some ⟨w.heap.size + 1, 3, none⟩), .pointer (some ⟨w.heap.size + 1, 4, none⟩), .pointer (some ⟨w.heap.size + 1 + 1, 0, none⟩)] 42 42 3 67
  generalize ((((w.alloc (.cells #[.int .i64 0, .int .i64 0, .int .i64 0, .int .i64 0, .int .i64 0, .string ⟨#[]⟩] 42)).alloc (.cells #[.int .i64 0, .int .i64 0, .int .i64 0, .int .i64 0, .int .i64 0, .string ⟨#[]⟩] 42)).alloc (.cells #[.int .i64 0] 3)).alloc (.cells #[.pointer (some ⟨w.heap.size + 1, 0, none⟩), .pointer (some ⟨w.heap.size + 1, 1, none⟩), .pointer (some ⟨w.heap.size + 1, 2, none⟩), .pointer (some ⟨w.heap.size + 1, 3, none⟩), .pointer (some ⟨w.heap.size + 1, 4, none⟩), .pointer (some ⟨w.heap.size + 1 + 1, 0, none⟩)] 67)) = W at b0 b1 b2 b3 hbl hsz ⊢
  have hgn : Gn W W (w.heap.size + 1) (w.heap.size + 1 + 1) [] := by
    refine ⟨rfl, rfl, rfl, rfl, fun _ _ _ => rfl, fun j hj => ?_, fun j hj => by simp at hj, rfl, fun o => free_blk b1, fun o => free_blk b2⟩
    unfold pAt
    split
    · rename_i h5
      refine ⟨.int .i64 0, ?_⟩
      rw [cell_blk b1]
      rcases (show j = 0 ∨ j = 1 ∨ j = 2 ∨ j = 3 ∨ j = 4 by omega) with rfl | rfl | rfl | rfl | rfl <;> rfl
    · exact ⟨.int .i64 0, by rw [cell_blk b2]; rfl⟩
  have HB0 : Hid (Below w.heap.size w W ∧ W.heap.size = w.heap.size + 1 + 1 + 1 + 1) := ⟨hbl, hsz⟩
  have HBK : Hid (W.heap[w.heap.size]? = some (.cells #[.int .i64 0, .int .i64 0, .int .i64 0, .int .i64 0, .int .i64 0, .string ⟨#[]⟩] 42 (0, 0)) ∧ W.heap[w.heap.size + 1]? = some (.cells #[.int .i64 0, .int .i64 0, .int .i64 0, .int .i64 0, .int .i64 0, .string ⟨#[]⟩] 42 (0, 0))) := ⟨b0, b1⟩
  have hrd : L.length ≠ 0 → ∃ b o, ao = some ⟨b, o, none⟩ ∧ b ≠ w.heap.size + 1 ∧ b ≠ w.heap.size + 1 + 1 ∧ BAt W b o L := fun h0 => by
    obtain ⟨b, o, e, hb⟩ := HR.out h0
    have hlt := World.block_lt_of_cell? w _ (hb 0 (by omega))
    simp only at hlt
    exact ⟨b, o, e, by omega, by omega, hb.below hbl⟩
  refine (getNums_any ao cap L a (w.heap.size + 1) (w.heap.size + 1 + 1) (w.heap.size + 1 + 1 + 1) W hrd hN hcap (by omega) (by omega) (by omega) (fun j hj => by rw [cell_blk b3]; rcases (show j = 0 ∨ j = 1 ∨ j = 2 ∨ j = 3 ∨ j = 4 ∨ j = 5 by omega) with rfl | rfl | rfl | rfl | rfl | rfl <;> rfl) hgn).mono ?_
  have HRD : Hid (∀ w5 ns, Gn W w5 (w.heap.size + 1) (w.heap.size + 1 + 1) ns → L.length ≠ 0 → ∃ b o, ao = some ⟨b, o, none⟩ ∧ BAt w5 b o L) := fun w5 ns h h0 => by
    obtain ⟨b, o, e, h1, h2, hb⟩ := hrd h0
    exact ⟨b, o, e, fun j hj => by rw [World.cell?_of_block (w := W) (h.blk b h1 h2)]; exact hb j hj⟩
  have HBE : Hid (∀ w5 ns, Gn W w5 (w.heap.size + 1) (w.heap.size + 1 + 1) ns → Below w.heap.size w w5 ∧ w5.heap[w.heap.size]? = some (.cells #[.int .i64 0, .int .i64 0, .int .i64 0, .int .i64 0, .int .i64 0, .string ⟨#[]⟩] 42 (0, 0))) := fun w5 ns h => by
    have hb := HB0.out.1
    exact ⟨⟨h.os.trans hb.os, h.tape.trans hb.tape, h.output.trans hb.output, by rw [h.size]; exact hb.size, fun k hk => (h.blk k (by omega) (by omega)).trans (hb.block k hk)⟩, (h.blk w.heap.size (by omega) (by omega)).trans HBK.out.1⟩
  clear hgn hrd b0 b1 b2 b3 hbl hsz
  generalize hRR : w.heap.size = R at *
  have HRR : Hid (w.heap.size = R) := hRR
  clear hRR
  rintro e w5 hgp
  rcases hgp with ⟨ns, b, hrd, rfl, hgn⟩ | ⟨hrd, rfl, ns, hgn⟩
  · obtain ⟨hb5, hk5⟩ := HBE.out w5 ns hgn
    have hl6 := rdNs_len hrd
    have hat := rdNs_at hrd
    have hx5 : w5.cell? ⟨R + 1, 5, none⟩ = some (.string ⟨#[]⟩) := by rw [hgn.last, cell_blk HBK.out.2]; rfl
    match ns, hl6 with
    | [n0, n1, n2, n3, n4, n5], _ =>
      have q0 : w5.cell? ⟨R + 1, 0, none⟩ = some (.int .i64 n0) := hgn.new 0 (by simp) (by decide)
      have q1 : w5.cell? ⟨R + 1, 1, none⟩ = some (.int .i64 n1) := hgn.new 1 (by simp) (by decide)
      have q2 : w5.cell? ⟨R + 1, 2, none⟩ = some (.int .i64 n2) := hgn.new 2 (by simp) (by decide)
      have q3 : w5.cell? ⟨R + 1, 3, none⟩ = some (.int .i64 n3) := hgn.new 3 (by simp) (by decide)
      have q4 : w5.cell? ⟨R + 1, 4, none⟩ = some (.int .i64 n4) := hgn.new 4 (by simp) (by decide)
      have qy : w5.cell? ⟨R + 1 + 1, 0, none⟩ = some (.int .i64 n5) := hgn.new 5 (by simp) (by decide)
      have fx := hgn.fx
      have HB5 : Hid (Below R w w5) := hb5
      have HK5 : Hid (w5.heap[R]? = some (.cells #[.int .i64 0, .int .i64 0, .int .i64 0, .int .i64 0, .int .i64 0, .string ⟨#[]⟩] 42 (0, 0))) := hk5
      have HRL : Hid (L.length ≠ 0 → ∃ b o, ao = some ⟨b, o, none⟩ ∧ BAt w5 b o L) := HRD.out w5 _ hgn
      have HRDN : Hid (rdNs L 6 a = some ([n0, n1, n2, n3, n4, n5], b)) := hrd
      obtain ⟨b, rfl⟩ : ∃ k : Nat, b = k := ⟨b.toNat, by omega⟩
      have d0 : w5.cell? ⟨R, 0, none⟩ = some (.int .i64 0) := by rw [cell_blk hk5]; rfl
      have d1 : w5.cell? ⟨R, 1, none⟩ = some (.int .i64 0) := by rw [cell_blk hk5]; rfl
      have d2 : w5.cell? ⟨R, 2, none⟩ = some (.int .i64 0) := by rw [cell_blk hk5]; rfl
      have d3 : w5.cell? ⟨R, 3, none⟩ = some (.int .i64 0) := by rw [cell_blk hk5]; rfl
      have d4 : w5.cell? ⟨R, 4, none⟩ = some (.int .i64 0) := by rw [cell_blk hk5]; rfl
      have d5 : w5.cell? ⟨R, 5, none⟩ = some (.string ⟨#[]⟩) := by rw [cell_blk hk5]; rfl
      have df : ∀ o, w5.frozen? ⟨R, o, none⟩ = false := fun o => free_blk hk5
      have hbl : b ≤ L.length := by omega
      clear hrd hgn hb5 hk5 hl6 hat
      by_cases hno : 0 ≤ n5 ∧ n5 ≤ (L.length : Int) - b
      · have h0 := hno.1
        obtain ⟨n, rfl⟩ : ∃ k : Nat, n5 = k := ⟨n5.toNat, by omega⟩
        have hbn : b + n ≤ L.length := by omega
        have HY : Hid (rdI L (L.length + 100) a = some (⟨n0, n1, n2, n3, n4, cutS L b n⟩, (b : Int) + (n : Int))) := by
          show _ = _
          unfold rdI
          rw [HRDN.out]
          simp only
          rw [if_pos ⟨by omega, by omega, hno.2⟩]
          simp
        have h2 : (n : Int) ≤ (L.length : Int) - (b : Int) := hno.2
        clear hno
        by_cases hL0 : L.length = 0
        · exfalso
          have h6 := HRDN.out
          rw [rdNs] at h6
          cases hg : getB L a with
          | none => rw [hg] at h6; cases h6
          | some p =>
            have := get_back (y := p.1) (e := p.2) hg
            omega
        · obtain ⟨bb, oo, rfl, hB⟩ := HRL.out hL0
          have hsl := run_cutB bb oo L.length cap b n (by omega)
          have hcv := conv_part w5 bb (if cap = b then oo else oo + b) n (cap - b) ((L.drop b).take n) (by simp; omega) (by
            split
            · have : n = 0 := by omega
              subst this
              intro j hj; simp at hj
            · exact bat_part hB b n)
          obtain ⟨of, hof⟩ : ∃ of, (if cap = b then oo else oo + b) = of := ⟨_, rfl⟩
          rw [hof] at hsl hcv
          obtain ⟨S, hS⟩ : ∃ S : ByteArray, ⟨((L.drop b).take n).toArray⟩ = S := ⟨_, rfl⟩
          rw [hS] at hcv
          have HSS : Hid (cutS L b n = S) := hS
          have HYY : Hid (Ending.returned (.tuple #[.agg #[.int .i64 n0, .int .i64 n1, .int .i64 n2, .int .i64 n3, .int .i64 n4, .string S], .int .i64 ((b : Int) + (n : Int)), .bool true]) = .returned (ansI (rdI L (L.length + 100) a))) := by show _ = _; rw [HY.out, HSS.out]; rfl
          have r0 : (w5.setCell ⟨R + 1, 5, none⟩ (.string S)).cell? ⟨R + 1, 0, none⟩ = some (.int .i64 n0) := by rw [World.cell?_setCell_other (h := by simp)]; exact q0
          have r1 : (w5.setCell ⟨R + 1, 5, none⟩ (.string S)).cell? ⟨R + 1, 1, none⟩ = some (.int .i64 n1) := by rw [World.cell?_setCell_other (h := by simp)]; exact q1
          have r2 : (w5.setCell ⟨R + 1, 5, none⟩ (.string S)).cell? ⟨R + 1, 2, none⟩ = some (.int .i64 n2) := by rw [World.cell?_setCell_other (h := by simp)]; exact q2
          have r3 : (w5.setCell ⟨R + 1, 5, none⟩ (.string S)).cell? ⟨R + 1, 3, none⟩ = some (.int .i64 n3) := by rw [World.cell?_setCell_other (h := by simp)]; exact q3
          have r4 : (w5.setCell ⟨R + 1, 5, none⟩ (.string S)).cell? ⟨R + 1, 4, none⟩ = some (.int .i64 n4) := by rw [World.cell?_setCell_other (h := by simp)]; exact q4
          have r5 : (w5.setCell ⟨R + 1, 5, none⟩ (.string S)).cell? ⟨R + 1, 5, none⟩ = some (.string S) := World.cell?_setCell_same w5 _ _ hx5
          have ry : (w5.setCell ⟨R + 1, 5, none⟩ (.string S)).cell? ⟨R + 1 + 1, 0, none⟩ = some (.int .i64 (n : Int)) := by rw [World.cell?_setCell_other (h := by simp)]; exact qy
          have rk : (w5.setCell ⟨R + 1, 5, none⟩ (.string S)).heap[R]? = some (.cells #[.int .i64 0, .int .i64 0, .int .i64 0, .int .i64 0, .int .i64 0, .string ⟨#[]⟩] 42 (0, 0)) := (Below.heap_setCell w5 ⟨R + 1, 5, none⟩ _ R (by simp)).trans HK5.out
          have HB6 : Hid (Below R w (w5.setCell ⟨R + 1, 5, none⟩ (.string S))) := HB5.out.setCell (by show R ≤ R + 1; omega) _
          clear hB hof hS
          go_wp2_with fail
          generalize (w5.setCell ⟨R + 1, 5, none⟩ (.string S)) = w6 at *
          have d0 : w6.cell? ⟨R, 0, none⟩ = some (.int .i64 0) := by rw [cell_blk rk]; rfl
          have d1 : w6.cell? ⟨R, 1, none⟩ = some (.int .i64 0) := by rw [cell_blk rk]; rfl
          have d2 : w6.cell? ⟨R, 2, none⟩ = some (.int .i64 0) := by rw [cell_blk rk]; rfl
          have d3 : w6.cell? ⟨R, 3, none⟩ = some (.int .i64 0) := by rw [cell_blk rk]; rfl
          have d4 : w6.cell? ⟨R, 4, none⟩ = some (.int .i64 0) := by rw [cell_blk rk]; rfl
          have d5 : w6.cell? ⟨R, 5, none⟩ = some (.string ⟨#[]⟩) := by rw [cell_blk rk]; rfl
          have df : ∀ o, w6.frozen? ⟨R, o, none⟩ = false := fun o => free_blk rk
          have HS : Hid (∀ (x0 x1 x2 x3 x4 x5 : Value), ((((((w6.setCell ⟨R, 0, none⟩ x0).setCell ⟨R, 1, none⟩ x1).setCell ⟨R, 2, none⟩ x2).setCell ⟨R, 3, none⟩ x3).setCell ⟨R, 4, none⟩ x4).setCell ⟨R, 5, none⟩ x5).heap[R]? = some (.cells #[x0, x1, x2, x3, x4, x5] 42 (0, 0))) := six_blk rk
          clear rk q0 q1 q2 q3 q4 qy hx5 hsl hcv fx
          go_region
          all_goals
            go_wp2_with fail
            refine bodyPost_ret (res_ins3 Tryd.results29 (drew_heap (HS.out (.int .i64 n0) (.int .i64 n1) (.int .i64 n2) (.int .i64 n3) (.int .i64 n4) (.string S))) rfl rfl rfl) rfl ⟨HYY.out, ?_⟩
            rw [HRR.out]
            exact ((((((HB6.out.setCell (Nat.le_refl _) _).setCell (Nat.le_refl _) _).setCell (Nat.le_refl _) _).setCell (Nat.le_refl _) _).setCell (Nat.le_refl _) _).setCell (Nat.le_refl _) _).drew
      · have HN : Hid (rdI L (L.length + 100) a = none) := by
          show _ = _
          unfold rdI
          rw [HRDN.out]
          simp only
          rw [if_neg (by omega)]
        have HS : Hid (∀ (x0 x1 x2 x3 x4 x5 : Value), ((((((w5.setCell ⟨R, 0, none⟩ x0).setCell ⟨R, 1, none⟩ x1).setCell ⟨R, 2, none⟩ x2).setCell ⟨R, 3, none⟩ x3).setCell ⟨R, 4, none⟩ x4).setCell ⟨R, 5, none⟩ x5).heap[R]? = some (.cells #[x0, x1, x2, x3, x4, x5] 42 (0, 0))) := six_blk HK5.out
        by_cases hn0 : n5 < 0
        · clear hno
          go_wp2_with fail
          refine bodyPost_ret (res_ins3 Tryd.results29 (HS.out _ _ _ _ _ _) rfl rfl rfl) rfl ⟨by rw [HN.out]; rfl, ?_⟩
          rw [HRR.out]
          exact (((((HB5.out.setCell (Nat.le_refl _) _).setCell (Nat.le_refl _) _).setCell (Nat.le_refl _) _).setCell (Nat.le_refl _) _).setCell (Nat.le_refl _) _).setCell (Nat.le_refl _) _
        · have hn1 : (L.length : Int) - (b : Int) < n5 := by omega
          clear hno
          go_wp2_with fail
          refine bodyPost_ret (res_ins3 Tryd.results29 (HS.out _ _ _ _ _ _) rfl rfl rfl) rfl ⟨by rw [HN.out]; rfl, ?_⟩
          rw [HRR.out]
          exact (((((HB5.out.setCell (Nat.le_refl _) _).setCell (Nat.le_refl _) _).setCell (Nat.le_refl _) _).setCell (Nat.le_refl _) _).setCell (Nat.le_refl _) _).setCell (Nat.le_refl _) _
  · obtain ⟨hb5, hk5⟩ := HBE.out w5 ns hgn
    have HN : Hid (rdI L (L.length + 100) a = none) := by show _ = _; unfold rdI; rw [hrd]
    have HB5 : Hid (Below R w w5) := hb5
    have HS : Hid (∀ (x0 x1 x2 x3 x4 x5 : Value), ((((((w5.setCell ⟨R, 0, none⟩ x0).setCell ⟨R, 1, none⟩ x1).setCell ⟨R, 2, none⟩ x2).setCell ⟨R, 3, none⟩ x3).setCell ⟨R, 4, none⟩ x4).setCell ⟨R, 5, none⟩ x5).heap[R]? = some (.cells #[x0, x1, x2, x3, x4, x5] 42 (0, 0))) := six_blk hk5
    have d0 : w5.cell? ⟨R, 0, none⟩ = some (.int .i64 0) := by rw [cell_blk hk5]; rfl
    have d1 : w5.cell? ⟨R, 1, none⟩ = some (.int .i64 0) := by rw [cell_blk hk5]; rfl
    have d2 : w5.cell? ⟨R, 2, none⟩ = some (.int .i64 0) := by rw [cell_blk hk5]; rfl
    have d3 : w5.cell? ⟨R, 3, none⟩ = some (.int .i64 0) := by rw [cell_blk hk5]; rfl
    have d4 : w5.cell? ⟨R, 4, none⟩ = some (.int .i64 0) := by rw [cell_blk hk5]; rfl
    have d5 : w5.cell? ⟨R, 5, none⟩ = some (.string ⟨#[]⟩) := by rw [cell_blk hk5]; rfl
    have df : ∀ o, w5.frozen? ⟨R, o, none⟩ = false := fun o => free_blk hk5
    clear hrd hgn hb5 hk5
    go_wp2_with fail
    refine bodyPost_ret (res_ins3 Tryd.results29 (HS.out _ _ _ _ _ _) rfl rfl rfl) rfl ⟨by rw [HN.out]; rfl, ?_⟩
    rw [HRR.out]
    exact (((((HB5.out.setCell (Nat.le_refl _) _).setCell (Nat.le_refl _) _).setCell (Nat.le_refl _) _).setCell (Nat.le_refl _) _).setCell (Nat.le_refl _) _).setCell (Nat.le_refl _) _
end Go.Proofs.YtcpodedmeeihhaaDoor.Cb
