/-
  Code read of bytes: what the program's GetCode answers.
  (Ahead of it, in this text: Code read of bytes: what the program's getNums and getIns answer.)
-/
import Derived.Test.YtpjhipekjilejaaDoorCbE
import Derived.Test.YtpjhipekjilejaaDoorByG
import Derived.Test.YtpjhipekjilejaaDoorCkB
import Derived.Test.YtpjhipekjilejaaDoorCkC
namespace Go.Proofs.YtpjhipekjilejaaDoor.Cb
open Go.RowKit
open Go.Proofs.YtpjhipekjilejaaDoor.By
open Go.Proofs.YtpjhipekjilejaaDoor.Code (I codeB specOk RowI SmI Bx6)
set_option linter.unusedVariables false

/-- Where the j-th of six numbers is wanted. -/
def pAt (X Y j : Nat) : Addr := if j < 5 then ⟨X, j, none⟩ else ⟨Y, 0, none⟩
/-- What getNums has done so far: the numbers ns stand where they are wanted. -/
structure Gn (w wr : World) (X Y : Nat) (ns : List Int) : Prop where
  os : wr.os = w.os
  tape : wr.tape = w.tape
  output : wr.output = w.output
  size : wr.heap.size = w.heap.size
  blk : ∀ k, k ≠ X → k ≠ Y → wr.heap[k]? = w.heap[k]?
  old : ∀ j, j < 6 → ∃ v, wr.cell? (pAt X Y j) = some v
  new : ∀ j (h : j < ns.length), j < 6 → wr.cell? (pAt X Y j) = some (.int .i64 ns[j])
  last : wr.cell? ⟨X, 5, none⟩ = w.cell? ⟨X, 5, none⟩
  fx : ∀ o, wr.frozen? ⟨X, o, none⟩ = false
  fy : ∀ o, wr.frozen? ⟨Y, o, none⟩ = false
theorem pAt_ne {X Y i j : Nat} (hXY : X ≠ Y) (hi : i < 6) (hj : j < 6) (h : j ≠ i) : pAt X Y j ≠ pAt X Y i := by
  unfold pAt
  intro e
  by_cases h1 : j < 5
  · by_cases h2 : i < 5
    · rw [if_pos h1, if_pos h2] at e; injection e with _ e; omega
    · rw [if_pos h1, if_neg h2] at e; injection e with e; omega
  · by_cases h2 : i < 5
    · rw [if_neg h1, if_pos h2] at e; injection e with e; omega
    · omega
theorem Gn.put {w wr : World} {X Y : Nat} {ns : List Int} (h : Gn w wr X Y ns) (hXY : X ≠ Y) (hl : ns.length < 6) (n : Int) : Gn w (wr.setCell (pAt X Y ns.length) (.int .i64 n)) X Y (ns ++ [n]) := by
  have hblk : (pAt X Y ns.length).block = X ∨ (pAt X Y ns.length).block = Y := by unfold pAt; split <;> simp
  have h5 : (⟨X, 5, none⟩ : Addr) ≠ pAt X Y ns.length := by
    unfold pAt; split
    · intro e; injection e with _ e; omega
    · intro e; injection e with e; omega
  refine ⟨h.os, h.tape, h.output, by rw [World.size_setCell]; exact h.size, fun k hX hY => ?_, fun j hj => ?_, fun j hj hj6 => ?_, ?_, fun o => by rw [World.frozen?_setCell]; exact h.fx o, fun o => by rw [World.frozen?_setCell]; exact h.fy o⟩
  · rw [Below.heap_setCell wr (pAt X Y ns.length) _ k (by rcases hblk with e | e <;> rw [e] <;> assumption)]; exact h.blk k hX hY
  · obtain ⟨v, hv⟩ := h.old j hj
    by_cases e : j = ns.length
    · subst e
      exact ⟨_, World.cell?_setCell_same wr _ _ hv⟩
    · exact ⟨v, by rw [World.cell?_setCell_other (h := (pAt_ne hXY hl hj e).symm)]; exact hv⟩
  · by_cases e : j = ns.length
    · subst e
      obtain ⟨v, hv⟩ := h.old ns.length hl
      rw [World.cell?_setCell_same wr _ _ hv]
      simp
    · have hj2 : j < ns.length := by simp at hj; omega
      rw [World.cell?_setCell_other (h := (pAt_ne hXY hl hj6 e).symm), h.new j hj2 hj6, List.getElem_append_left hj2]
  · rw [World.cell?_setCell_other (h := h5.symm)]; exact h.last

/-- What getNums answers. -/
def GnP (L : List UInt8) (a : Int) (w : World) (X Y : Nat) (e : Ending) (w' : World) : Prop :=
  (∃ ns b, rdNs L 6 a = some (ns, b) ∧ e = .returned (.tuple #[.int .i64 b, .bool true]) ∧ Gn w w' X Y ns) ∨
  (rdNs L 6 a = none ∧ e = .returned (.tuple #[.int .i64 0, .bool false]) ∧ ∃ ns, Gn w w' X Y ns)

set_option maxHeartbeats 2000000 in
set_option maxRecDepth 100000 in
theorem getNums_any (ao : Option Addr) (cap : Nat) (L : List UInt8) (a : Int) (X Y P : Nat) (w : World) (hr : L.length ≠ 0 → ∃ b o, ao = some ⟨b, o, none⟩ ∧ b ≠ X ∧ b ≠ Y ∧ BAt w b o L) (hN : L.length ≤ 1048600) (hcap : L.length ≤ cap) (hXY : X ≠ Y) (hPX : P ≠ X) (hPY : P ≠ Y)
    (hp : ∀ j, j < 6 → w.cell? ⟨P, j, none⟩ = some (.pointer (some (pAt X Y j)))) (hg : Gn w w X Y []) :
    Calls Tryd.prog 25 #[.slice ao L.length cap, .int .i64 a, .slice (some ⟨P, 0, none⟩) 6 6] w fun e w' => GnP L a w X Y e w' := by
  have HR : Hid (L.length ≠ 0 → ∃ b o, ao = some ⟨b, o, none⟩ ∧ b ≠ X ∧ b ≠ Y ∧ BAt w b o L) := hr
  have HP : Hid (∀ j, j < 6 → w.cell? ⟨P, j, none⟩ = some (.pointer (some (pAt X Y j)))) := hp
  have HG : Hid (Gn w w X Y []) := hg
  have HX : Hid (X ≠ Y ∧ P ≠ X ∧ P ≠ Y) := ⟨hXY, hPX, hPY⟩
  have HA0 : Hid (addNs [] (rdNs L 6 a) = rdNs L 6 a) := addNs_nil _
  have HRD : Hid (∀ wr ns, Gn w wr X Y ns → RdB wr ao L) := fun wr ns h h0 => by
    obtain ⟨b, o, e, h1, h2, hb⟩ := HR.out h0
    exact ⟨b, o, e, fun j hj => by rw [World.cell?_of_block (w := w) (h.blk b h1 h2)]; exact hb j hj⟩
  have HPR : Hid (∀ wr ns j, Gn w wr X Y ns → j < 6 → wr.cell? ⟨P, j, none⟩ = some (.pointer (some (pAt X Y j)))) := fun wr ns j h hj => by
    rw [World.cell?_of_block (w := w) (h.blk P HX.out.2.1 HX.out.2.2)]; exact HP.out j hj
  clear hr hXY hPX hPY hp hg
  go_enter Tryd.func25, Tryd.ntmps25
  go_wp2_with fail
  go_loopw [1, 9, 10, 13] (fun av _ _ iv wr => ∃ (ns : List Int) (b : Int), ns.length ≤ 6 ∧ iv = .int .i64 ns.length ∧ av = .int .i64 b ∧ addNs ns (rdNs L (6 - ns.length) b) = rdNs L 6 a ∧ Gn w wr X Y ns) (fun _ _ _ iv _ => 6 - (intOf iv).toNat)
  case atStart => exact ⟨[], a, Nat.zero_le _, rfl, rfl, HA0.out, HG.out⟩
  case round =>
    obtain ⟨ns, b, hl, rfl, rfl, hE, hgn⟩ := hrel
    have HE : Hid (addNs ns (rdNs L (6 - ns.length) b) = rdNs L 6 a) := hE
    have HGN : Hid (Gn w wr X Y ns) := hgn
    by_cases hlt : ns.length < 6
    · have q := HPR.out wr ns ns.length hgn hlt
      obtain ⟨v, hv⟩ := hgn.old ns.length hlt
      have hfz : wr.frozen? (pAt X Y ns.length) = false := by
        unfold pAt; split
        · exact hgn.fx _
        · exact hgn.fy _
      have HRB : Hid (RdB wr ao L) := HRD.out wr ns hgn
      clear hE hgn
      generalize hpp : pAt X Y ns.length = p at *
      have HPP : Hid (pAt X Y ns.length = p) := hpp
      clear hpp
      obtain ⟨pb, po, ps⟩ := p
      obtain rfl : ps = none := World.cell?_spot hv
      cases hgb : getB L b with
      | none =>
        have HN0 : Hid (rdNs L 6 a = none) := by
          show _ = _
          rw [← HE.out, show 6 - ns.length = (5 - ns.length) + 1 by omega]
          exact addNs_none L ns _ b hgb
        have HC : Hid (∀ w', w' = wr → Calls Tryd.prog 13 #[.slice ao L.length cap, .int .i64 b] w' fun e w'' => e = .returned (.tuple #[.int .i64 0, .int .i64 0, .bool false]) ∧ w'' = w') := fun w' h => by
          subst h
          have := implGet_any ao cap L b w' HRB.out hN hcap
          rw [hgb] at this; exact this
        have HG2 : Hid (Gn w (wr.setCell ⟨pb, po, none⟩ (.int .i64 0)) X Y (ns ++ [0])) := by
          have := HGN.out.put HX.out.1 hlt 0
          rw [HPP.out] at this; exact this
        clear hgb
        go_wp2_with (go_at_call 13; refine (HC.out _ rfl).mono ?_; rintro e w2 ⟨rfl, hw2⟩; obtain rfl := hw2.symm)
        refine bodyPost_ret (v := .tuple #[.int .i64 0, .bool false]) (by simp [results, Tryd.results25, go_sem]) rfl (.inr ⟨HN0.out, rfl, _, HG2.out⟩)
      | some q2 =>
        obtain ⟨n, e⟩ := q2
        have HC : Hid (∀ w', w' = wr → Calls Tryd.prog 13 #[.slice ao L.length cap, .int .i64 b] w' fun e' w'' => e' = .returned (.tuple #[.int .i64 n, .int .i64 e, .bool true]) ∧ w'' = w') := fun w' h => by
          subst h
          have := implGet_any ao cap L b w' HRB.out hN hcap
          rw [hgb] at this; exact this
        have HG2 : Hid (Gn w (wr.setCell ⟨pb, po, none⟩ (.int .i64 n)) X Y (ns ++ [n])) := by
          have := HGN.out.put HX.out.1 hlt n
          rw [HPP.out] at this; exact this
        have HE2 : Hid (addNs (ns ++ [n]) (rdNs L (6 - (ns ++ [n]).length) e) = rdNs L 6 a) := by
          show _ = _
          rw [← HE.out, show 6 - ns.length = (5 - ns.length) + 1 by omega, addNs_step L ns _ b n e hgb]
          congr 2
          simp
          try omega
        have HL2 : Hid ((ns ++ [n]).length = ns.length + 1) := by show _ = _; simp
        clear hgb
        go_wp2_with (go_at_call 13; refine (HC.out _ rfl).mono ?_; rintro e w2 ⟨rfl, hw2⟩; obtain rfl := hw2.symm)
        go_roundw
        case rel => exact ⟨ns ++ [n], e, by rw [HL2.out]; omega, by rw [HL2.out]; go_num, rfl, HE2.out, HG2.out⟩
        case measure => simp [intOf]; omega
    · have h6 : ns.length = 6 := by omega
      have HEE : Hid (rdNs L 6 a = some (ns, b)) := by
        have := HE.out
        rw [h6] at this
        show _ = _
        rw [← this]; simp [rdNs, addNs]
      clear hE hgn
      rw [h6]
      go_wp2_with fail
      refine bodyPost_ret (v := .tuple #[.int .i64 b, .bool true]) (by simp [results, Tryd.results25, go_sem]) rfl (.inl ⟨ns, b, HEE.out, rfl, HGN.out⟩)

/-- What getIns answers. -/
def ansI (o : Option (I × Int)) : Value := match o with
  | none => .tuple #[.agg #[.int .i64 0, .int .i64 0, .int .i64 0, .int .i64 0, .int .i64 0, .string ⟨#[]⟩], .int .i64 0, .bool false]
  | some (x, e) => .tuple #[.agg #[.int .i64 x.op, .int .i64 x.a, .int .i64 x.b, .int .i64 x.c, .int .i64 x.n, .string x.s], .int .i64 e, .bool true]
theorem bat_part {w : World} {b o : Nat} {L : List UInt8} (h : BAt w b o L) (i n : Nat) : BAt w b (o + i) ((L.drop i).take n) := fun j hj => by
  have hj2 : i + j < L.length := by simp at hj; omega
  have := h (i + j) hj2
  rw [Nat.add_assoc]
  simp only [List.getElem_take, List.getElem_drop]
  exact this
theorem conv_part (W : World) (b o n cap : Nat) (l : List UInt8) (hl : l.length = n) (h : BAt W b o l) :
    (convert 22 9 (.slice (some ⟨b, o, none⟩) n cap)).run Tryd.prog W = .ok (.string ⟨l.toArray⟩) W := by
  subst hl
  exact run_convert_bytes_back (P := Tryd.prog) W 22 9 5 ⟨b, o, none⟩ cap l Tryd.underlying22 Tryd.underlying5 Tryd.underlying9 (fun j hj => by rw [Addr.add_lit]; exact h j hj)

theorem setBlk {w : World} {R : Nat} {cs : Array Value} {t : TypeId} {f : Nat × Nat} (h : w.heap[R]? = some (.cells cs t f)) {i : Nat} (v : Value) : (w.setCell ⟨R, i, none⟩ v).heap[R]? = some (.cells (cs.setIfInBounds i v) t f) := by
  simp [World.setCell, Array.getElem?_modify, h]
theorem six_blk {w : World} {R : Nat} {a0 b0 c0 d0 e0 g0 : Value} {t : TypeId} {f : Nat × Nat} (h : w.heap[R]? = some (.cells #[a0, b0, c0, d0, e0, g0] t f)) (a b c d e g : Value) :
    ((((((w.setCell ⟨R, 0, none⟩ a).setCell ⟨R, 1, none⟩ b).setCell ⟨R, 2, none⟩ c).setCell ⟨R, 3, none⟩ d).setCell ⟨R, 4, none⟩ e).setCell ⟨R, 5, none⟩ g).heap[R]? = some (.cells #[a, b, c, d, e, g] t f) := by
  rw [setBlk (setBlk (setBlk (setBlk (setBlk (setBlk h a) b) c) d) e) g]; rfl
theorem drew_heap {W : World} {R : Nat} {o : Option Obj} (h : W.heap[R]? = o) : W.drew.heap[R]? = o := h
theorem results_cell_tmp2 {fn : Func} {p u v : Tmp} {ty : TypeId} (h : fn.results = #[.cell p ty, .tmp u, .tmp v]) (tmps : Array Value) (P : Program) (w : World) :
    (results fn tmps).run P w =
      ((asAddr (tmps.getD p undef)).run P w).andThen fun a w₁ => ((loadVar ty a).run P w₁).andThen fun x w₂ => .ok (.tuple #[x, tmps.getD u undef, tmps.getD v undef]) w₂ := by
  simp only [results, h]
  simp [Sem.run_bind, Result.andThen]
theorem res_ins3 {w : World} {R : Nat} {a b c d e g : Value} {tmps : Array Value} {fn : Func} {p : Int} {q : Bool} (hf : fn.results = #[.cell 4 33, .tmp 5, .tmp 6]) (h : w.heap[R]? = some (.cells #[a, b, c, d, e, g] 33 (0, 0)))
    (h4 : tmps.getD 4 undef = .pointer (some ⟨R, 0, none⟩)) (h5 : tmps.getD 5 undef = .int .i64 p) (h6 : tmps.getD 6 undef = .bool q) : (results fn tmps).run Tryd.prog w = .ok (.tuple #[.agg #[a, b, c, d, e, g], .int .i64 p, .bool q]) w := by
  rw [results_cell_tmp2 hf, h4, h5, h6]
  simp [asAddr, Result.andThen, run_loadVar_row w R 33 33 #[a, b, c, d, e, g] (0, 0) _ h Tryd.underlying33 rfl (by kernel_rfl)]
theorem run_cutB (b o len cap i n : Nat) (hc : i + n ≤ cap) (W : World) :
    (Instr.slice 22 (.slice (some ⟨b, o, none⟩) len cap) (some (.int .i64 (i : Int))) (some (.int .i64 ((i : Int) + (n : Int)))) none).run Tryd.prog W = .ok (.slice (some ⟨b, if cap = i then o else o + i, none⟩) n (cap - i)) W := by
  have hs : (sizeOf (Tryd.prog.elem 22)).run Tryd.prog W = .ok 1 W := by kernel_rfl
  have h := run_slice_lh (P := Tryd.prog) (w := W) (t := 22) (a := some ⟨b, o, none⟩) (len := len) (cap := cap) (by kernel_rfl) .i64 .i64 (i : Int) ((i : Int) + (n : Int)) (by omega) (by omega) (by omega)
  rw [h, hs]
  have e1 : ((i : Int) + (n : Int)).toNat = i + n := by omega
  simp only [Result.andThen, sliced, Int.toNat_natCast, e1]
  by_cases hci : cap = i
  · rw [if_pos hci, if_pos hci]; simp
  · rw [if_neg hci, if_neg hci]; simp [Addr.add]

/-- Four new blocks. -/
theorem four_new (w : World) (A B C D : Array Value) (ta tb tc td : TypeId) :
    let W := (((w.alloc (.cells A ta)).alloc (.cells B tb)).alloc (.cells C tc)).alloc (.cells D td)
    W.heap[w.heap.size]? = some (.cells A ta (0, 0)) ∧ W.heap[w.heap.size + 1]? = some (.cells B tb (0, 0)) ∧ W.heap[w.heap.size + 1 + 1]? = some (.cells C tc (0, 0)) ∧ W.heap[w.heap.size + 1 + 1 + 1]? = some (.cells D td (0, 0)) ∧ Below w.heap.size w W ∧ W.heap.size = w.heap.size + 1 + 1 + 1 + 1 := by
  intro W
  have z1 : (w.alloc (.cells A ta)).heap.size = w.heap.size + 1 := World.size_alloc _ _
  have z2 : ((w.alloc (.cells A ta)).alloc (.cells B tb)).heap.size = w.heap.size + 1 + 1 := by rw [World.size_alloc, z1]
  have z3 : (((w.alloc (.cells A ta)).alloc (.cells B tb)).alloc (.cells C tc)).heap.size = w.heap.size + 1 + 1 + 1 := by rw [World.size_alloc, z2]
  have k1 : ∀ k, k < w.heap.size + 1 → ((w.alloc (.cells A ta)).alloc (.cells B tb)).heap[k]? = (w.alloc (.cells A ta)).heap[k]? := fun k hk => ((Below.refl _ _).alloc (Nat.le_refl _) _).block k (by rw [z1]; exact hk)
  have k2 : ∀ k, k < w.heap.size + 1 + 1 → (((w.alloc (.cells A ta)).alloc (.cells B tb)).alloc (.cells C tc)).heap[k]? = ((w.alloc (.cells A ta)).alloc (.cells B tb)).heap[k]? := fun k hk => ((Below.refl _ _).alloc (Nat.le_refl _) _).block k (by rw [z2]; exact hk)
  have k3 : ∀ k, k < w.heap.size + 1 + 1 + 1 → W.heap[k]? = (((w.alloc (.cells A ta)).alloc (.cells B tb)).alloc (.cells C tc)).heap[k]? := fun k hk => ((Below.refl _ _).alloc (Nat.le_refl _) _).block k (by rw [z3]; exact hk)
  refine ⟨?_, ?_, ?_, ?_, (((Below.refl w.heap.size w).alloc (Nat.le_refl _) _).alloc (by rw [World.size_alloc]; omega) _).alloc (by rw [World.size_alloc, World.size_alloc]; omega) _ |>.alloc (by rw [World.size_alloc, World.size_alloc, World.size_alloc]; omega) _, by rw [World.size_alloc, World.size_alloc, World.size_alloc, World.size_alloc]⟩
  · rw [k3 _ (by omega), k2 _ (by omega), k1 _ (by omega)]; exact heap_alloc_new w _
  · rw [k3 _ (by omega), k2 _ (by omega)]
    have := heap_alloc_new (w.alloc (.cells A ta)) (.cells B tb)
    rw [z1] at this; exact this
  · rw [k3 _ (by omega)]
    have := heap_alloc_new ((w.alloc (.cells A ta)).alloc (.cells B tb)) (.cells C tc)
    rw [z2] at this; exact this
  · have := heap_alloc_new (((w.alloc (.cells A ta)).alloc (.cells B tb)).alloc (.cells C tc)) (.cells D td)
    rw [z3] at this; exact this
theorem cell_blk {w : World} {R o : Nat} {cs : Array Value} {t : TypeId} {f : Nat × Nat} (h : w.heap[R]? = some (.cells cs t f)) : w.cell? ⟨R, o, none⟩ = cs[o]? := by simp [World.cell?, h]
theorem free_blk {w : World} {R o : Nat} {cs : Array Value} {t : TypeId} (h : w.heap[R]? = some (.cells cs t (0, 0))) : w.frozen? ⟨R, o, none⟩ = false := by simp [World.frozen?, h]

set_option maxHeartbeats 2000000 in
set_option maxRecDepth 100000 in
theorem getIns_any (ao : Option Addr) (cap : Nat) (L : List UInt8) (a : Int) (w : World) (hr : RdB w ao L) (hN : L.length ≤ 1048600) (hcap : L.length ≤ cap) :
    Calls Tryd.prog 14 #[.slice ao L.length cap, .int .i64 a] w fun e w' => e = .returned (ansI (rdI L (L.length + 100) a)) ∧ Below w.heap.size w w' := by
  have HR : Hid (RdB w ao L) := hr
  clear hr
  go_enter Tryd.func14, Tryd.ntmps14
  go_wp2_with fail
  obtain ⟨b0, b1, b2, b3, hbl, hsz⟩ := four_new w #[.int .i64 0, .int .i64 0, .int .i64 0, .int .i64 0, .int .i64 0, .string ⟨#[]⟩] #[.int .i64 0, .int .i64 0, .int .i64 0, .int .i64 0, .int .i64 0, .string ⟨#[]⟩] #[.int .i64 0] #[.pointer (some ⟨w.heap.size + 1, 0, none⟩), .pointer (some ⟨w.heap.size + 1, 1, none⟩), .pointer (some ⟨w.heap.size + 1, 2, none⟩), .pointer (some ⟨w.heap.size + 1, 3, none⟩), .pointer (some ⟨w.heap.size + 1, 4, none⟩), .pointer (some ⟨w.heap.size + 1 + 1, 0, none⟩)] 33 33 3 57
  generalize ((((w.alloc (.cells #[.int .i64 0, .int .i64 0, .int .i64 0, .int .i64 0, .int .i64 0, .string ⟨#[]⟩] 33)).alloc (.cells #[.int .i64 0, .int .i64 0, .int .i64 0, .int .i64 0, .int .i64 0, .string ⟨#[]⟩] 33)).alloc (.cells #[.int .i64 0] 3)).alloc (.cells #[.pointer (some ⟨w.heap.size + 1, 0, none⟩), .pointer (some ⟨w.heap.size + 1, 1, none⟩), .pointer (some ⟨w.heap.size + 1, 2, none⟩), .pointer (some ⟨w.heap.size + 1, 3, none⟩), .pointer (some ⟨w.heap.size + 1, 4, none⟩), .pointer (some ⟨w.heap.size + 1 + 1, 0, none⟩)] 57)) = W at b0 b1 b2 b3 hbl hsz ⊢
  have hgn : Gn W W (w.heap.size + 1) (w.heap.size + 1 + 1) [] := by
    refine ⟨rfl, rfl, rfl, rfl, fun _ _ _ => rfl, fun j hj => ?_, fun j hj => by simp at hj, rfl, fun o => free_blk b1, fun o => free_blk b2⟩
    unfold pAt
    split
    · rename_i h5
      refine ⟨.int .i64 0, ?_⟩
      rw [cell_blk b1]
      rcases (show j = 0 ∨ j = 1 ∨ j = 2 ∨ j = 3 ∨ j = 4 by omega) with rfl | rfl | rfl | rfl | rfl <;> rfl
    · exact ⟨.int .i64 0, by rw [cell_blk b2]; rfl⟩
  have HB0 : Hid (Below w.heap.size w W ∧ W.heap.size = w.heap.size + 1 + 1 + 1 + 1) := ⟨hbl, hsz⟩
  have HBK : Hid (W.heap[w.heap.size]? = some (.cells #[.int .i64 0, .int .i64 0, .int .i64 0, .int .i64 0, .int .i64 0, .string ⟨#[]⟩] 33 (0, 0)) ∧ W.heap[w.heap.size + 1]? = some (.cells #[.int .i64 0, .int .i64 0, .int .i64 0, .int .i64 0, .int .i64 0, .string ⟨#[]⟩] 33 (0, 0))) := ⟨b0, b1⟩
  have hrd : L.length ≠ 0 → ∃ b o, ao = some ⟨b, o, none⟩ ∧ b ≠ w.heap.size + 1 ∧ b ≠ w.heap.size + 1 + 1 ∧ BAt W b o L := fun h0 => by
    obtain ⟨b, o, e, hb⟩ := HR.out h0
    have hlt := World.block_lt_of_cell? w _ (hb 0 (by omega))
    simp only at hlt
    exact ⟨b, o, e, by omega, by omega, hb.below hbl⟩
  refine (getNums_any ao cap L a (w.heap.size + 1) (w.heap.size + 1 + 1) (w.heap.size + 1 + 1 + 1) W hrd hN hcap (by omega) (by omega) (by omega) (fun j hj => by rw [cell_blk b3]; rcases (show j = 0 ∨ j = 1 ∨ j = 2 ∨ j = 3 ∨ j = 4 ∨ j = 5 by omega) with rfl | rfl | rfl | rfl | rfl | rfl <;> rfl) hgn).mono ?_
  have HRD : Hid (∀ w5 ns, Gn W w5 (w.heap.size + 1) (w.heap.size + 1 + 1) ns → L.length ≠ 0 → ∃ b o, ao = some ⟨b, o, none⟩ ∧ BAt w5 b o L) := fun w5 ns h h0 => by
    obtain ⟨b, o, e, h1, h2, hb⟩ := hrd h0
    exact ⟨b, o, e, fun j hj => by rw [World.cell?_of_block (w := W) (h.blk b h1 h2)]; exact hb j hj⟩
  have HBE : Hid (∀ w5 ns, Gn W w5 (w.heap.size + 1) (w.heap.size + 1 + 1) ns → Below w.heap.size w w5 ∧ w5.heap[w.heap.size]? = some (.cells #[.int .i64 0, .int .i64 0, .int .i64 0, .int .i64 0, .int .i64 0, .string ⟨#[]⟩] 33 (0, 0))) := fun w5 ns h => by
    have hb := HB0.out.1
    exact ⟨⟨h.os.trans hb.os, h.tape.trans hb.tape, h.output.trans hb.output, by rw [h.size]; exact hb.size, fun k hk => (h.blk k (by omega) (by omega)).trans (hb.block k hk)⟩, (h.blk w.heap.size (by omega) (by omega)).trans HBK.out.1⟩
  clear hgn hrd b0 b1 b2 b3 hbl hsz
  generalize hRR : w.heap.size = R at *
  have HRR : Hid (w.heap.size = R) := hRR
  clear hRR
  rintro e w5 hgp
  rcases hgp with ⟨ns, b, hrd, rfl, hgn⟩ | ⟨hrd, rfl, ns, hgn⟩
  · obtain ⟨hb5, hk5⟩ := HBE.out w5 ns hgn
    have hl6 := rdNs_len hrd
    have hat := rdNs_at hrd
    have hx5 : w5.cell? ⟨R + 1, 5, none⟩ = some (.string ⟨#[]⟩) := by rw [hgn.last, cell_blk HBK.out.2]; rfl
    match ns, hl6 with
    | [n0, n1, n2, n3, n4, n5], _ =>
      have q0 : w5.cell? ⟨R + 1, 0, none⟩ = some (.int .i64 n0) := hgn.new 0 (by simp) (by decide)
      have q1 : w5.cell? ⟨R + 1, 1, none⟩ = some (.int .i64 n1) := hgn.new 1 (by simp) (by decide)
      have q2 : w5.cell? ⟨R + 1, 2, none⟩ = some (.int .i64 n2) := hgn.new 2 (by simp) (by decide)
      have q3 : w5.cell? ⟨R + 1, 3, none⟩ = some (.int .i64 n3) := hgn.new 3 (by simp) (by decide)
      have q4 : w5.cell? ⟨R + 1, 4, none⟩ = some (.int .i64 n4) := hgn.new 4 (by simp) (by decide)
      have qy : w5.cell? ⟨R + 1 + 1, 0, none⟩ = some (.int .i64 n5) := hgn.new 5 (by simp) (by decide)
      have fx := hgn.fx
      have HB5 : Hid (Below R w w5) := hb5
      have HK5 : Hid (w5.heap[R]? = some (.cells #[.int .i64 0, .int .i64 0, .int .i64 0, .int .i64 0, .int .i64 0, .string ⟨#[]⟩] 33 (0, 0))) := hk5
      have HRL : Hid (L.length ≠ 0 → ∃ b o, ao = some ⟨b, o, none⟩ ∧ BAt w5 b o L) := HRD.out w5 _ hgn
      have HRDN : Hid (rdNs L 6 a = some ([n0, n1, n2, n3, n4, n5], b)) := hrd
      obtain ⟨b, rfl⟩ : ∃ k : Nat, b = k := ⟨b.toNat, by omega⟩
      have d0 : w5.cell? ⟨R, 0, none⟩ = some (.int .i64 0) := by rw [cell_blk hk5]; rfl
      have d1 : w5.cell? ⟨R, 1, none⟩ = some (.int .i64 0) := by rw [cell_blk hk5]; rfl
      have d2 : w5.cell? ⟨R, 2, none⟩ = some (.int .i64 0) := by rw [cell_blk hk5]; rfl
      have d3 : w5.cell? ⟨R, 3, none⟩ = some (.int .i64 0) := by rw [cell_blk hk5]; rfl
      have d4 : w5.cell? ⟨R, 4, none⟩ = some (.int .i64 0) := by rw [cell_blk hk5]; rfl
      have d5 : w5.cell? ⟨R, 5, none⟩ = some (.string ⟨#[]⟩) := by rw [cell_blk hk5]; rfl
      have df : ∀ o, w5.frozen? ⟨R, o, none⟩ = false := fun o => free_blk hk5
      have hbl : b ≤ L.length := by omega
      clear hrd hgn hb5 hk5 hl6 hat
      by_cases hno : 0 ≤ n5 ∧ n5 ≤ (L.length : Int) - b
      · have h0 := hno.1
        obtain ⟨n, rfl⟩ : ∃ k : Nat, n5 = k := ⟨n5.toNat, by omega⟩
        have hbn : b + n ≤ L.length := by omega
        have HY : Hid (rdI L (L.length + 100) a = some (⟨n0, n1, n2, n3, n4, cutS L b n⟩, (b : Int) + (n : Int))) := by
          show _ = _
          unfold rdI
          rw [HRDN.out]
          simp only
          rw [if_pos ⟨by omega, by omega, hno.2⟩]
          simp
        have h2 : (n : Int) ≤ (L.length : Int) - (b : Int) := hno.2
        clear hno
        by_cases hL0 : L.length = 0
        · exfalso
          have h6 := HRDN.out
          rw [rdNs] at h6
          cases hg : getB L a with
          | none => rw [hg] at h6; cases h6
          | some p =>
            have := get_back (y := p.1) (e := p.2) hg
            omega
        · obtain ⟨bb, oo, rfl, hB⟩ := HRL.out hL0
          have hsl := run_cutB bb oo L.length cap b n (by omega)
          have hcv := conv_part w5 bb (if cap = b then oo else oo + b) n (cap - b) ((L.drop b).take n) (by simp; omega) (by
            split
            · have : n = 0 := by omega
              subst this
              intro j hj; simp at hj
            · exact bat_part hB b n)
          obtain ⟨of, hof⟩ : ∃ of, (if cap = b then oo else oo + b) = of := ⟨_, rfl⟩
          rw [hof] at hsl hcv
          obtain ⟨S, hS⟩ : ∃ S : ByteArray, ⟨((L.drop b).take n).toArray⟩ = S := ⟨_, rfl⟩
          rw [hS] at hcv
          have HSS : Hid (cutS L b n = S) := hS
          have HYY : Hid (Ending.returned (.tuple #[.agg #[.int .i64 n0, .int .i64 n1, .int .i64 n2, .int .i64 n3, .int .i64 n4, .string S], .int .i64 ((b : Int) + (n : Int)), .bool true]) = .returned (ansI (rdI L (L.length + 100) a))) := by show _ = _; rw [HY.out, HSS.out]; rfl
          have r0 : (w5.setCell ⟨R + 1, 5, none⟩ (.string S)).cell? ⟨R + 1, 0, none⟩ = some (.int .i64 n0) := by rw [World.cell?_setCell_other (h := by simp)]; exact q0
          have r1 : (w5.setCell ⟨R + 1, 5, none⟩ (.string S)).cell? ⟨R + 1, 1, none⟩ = some (.int .i64 n1) := by rw [World.cell?_setCell_other (h := by simp)]; exact q1
          have r2 : (w5.setCell ⟨R + 1, 5, none⟩ (.string S)).cell? ⟨R + 1, 2, none⟩ = some (.int .i64 n2) := by rw [World.cell?_setCell_other (h := by simp)]; exact q2
          have r3 : (w5.setCell ⟨R + 1, 5, none⟩ (.string S)).cell? ⟨R + 1, 3, none⟩ = some (.int .i64 n3) := by rw [World.cell?_setCell_other (h := by simp)]; exact q3
          have r4 : (w5.setCell ⟨R + 1, 5, none⟩ (.string S)).cell? ⟨R + 1, 4, none⟩ = some (.int .i64 n4) := by rw [World.cell?_setCell_other (h := by simp)]; exact q4
          have r5 : (w5.setCell ⟨R + 1, 5, none⟩ (.string S)).cell? ⟨R + 1, 5, none⟩ = some (.string S) := World.cell?_setCell_same w5 _ _ hx5
          have ry : (w5.setCell ⟨R + 1, 5, none⟩ (.string S)).cell? ⟨R + 1 + 1, 0, none⟩ = some (.int .i64 (n : Int)) := by rw [World.cell?_setCell_other (h := by simp)]; exact qy
          have rk : (w5.setCell ⟨R + 1, 5, none⟩ (.string S)).heap[R]? = some (.cells #[.int .i64 0, .int .i64 0, .int .i64 0, .int .i64 0, .int .i64 0, .string ⟨#[]⟩] 33 (0, 0)) := (Below.heap_setCell w5 ⟨R + 1, 5, none⟩ _ R (by simp)).trans HK5.out
          have HB6 : Hid (Below R w (w5.setCell ⟨R + 1, 5, none⟩ (.string S))) := HB5.out.setCell (by show R ≤ R + 1; omega) _
          clear hB hof hS
          go_wp2_with fail
          generalize (w5.setCell ⟨R + 1, 5, none⟩ (.string S)) = w6 at *
          have d0 : w6.cell? ⟨R, 0, none⟩ = some (.int .i64 0) := by rw [cell_blk rk]; rfl
          have d1 : w6.cell? ⟨R, 1, none⟩ = some (.int .i64 0) := by rw [cell_blk rk]; rfl
          have d2 : w6.cell? ⟨R, 2, none⟩ = some (.int .i64 0) := by rw [cell_blk rk]; rfl
          have d3 : w6.cell? ⟨R, 3, none⟩ = some (.int .i64 0) := by rw [cell_blk rk]; rfl
          have d4 : w6.cell? ⟨R, 4, none⟩ = some (.int .i64 0) := by rw [cell_blk rk]; rfl
          have d5 : w6.cell? ⟨R, 5, none⟩ = some (.string ⟨#[]⟩) := by rw [cell_blk rk]; rfl
          have df : ∀ o, w6.frozen? ⟨R, o, none⟩ = false := fun o => free_blk rk
          have HS : Hid (∀ (x0 x1 x2 x3 x4 x5 : Value), ((((((w6.setCell ⟨R, 0, none⟩ x0).setCell ⟨R, 1, none⟩ x1).setCell ⟨R, 2, none⟩ x2).setCell ⟨R, 3, none⟩ x3).setCell ⟨R, 4, none⟩ x4).setCell ⟨R, 5, none⟩ x5).heap[R]? = some (.cells #[x0, x1, x2, x3, x4, x5] 33 (0, 0))) := six_blk rk
          clear rk q0 q1 q2 q3 q4 qy hx5 hsl hcv fx
          go_region
          all_goals
            go_wp2_with fail
            refine bodyPost_ret (res_ins3 Tryd.results14 (drew_heap (HS.out (.int .i64 n0) (.int .i64 n1) (.int .i64 n2) (.int .i64 n3) (.int .i64 n4) (.string S))) rfl rfl rfl) rfl ⟨HYY.out, ?_⟩
            rw [HRR.out]
            exact ((((((HB6.out.setCell (Nat.le_refl _) _).setCell (Nat.le_refl _) _).setCell (Nat.le_refl _) _).setCell (Nat.le_refl _) _).setCell (Nat.le_refl _) _).setCell (Nat.le_refl _) _).drew
      · have HN : Hid (rdI L (L.length + 100) a = none) := by
          show _ = _
          unfold rdI
          rw [HRDN.out]
          simp only
          rw [if_neg (by omega)]
        have HS : Hid (∀ (x0 x1 x2 x3 x4 x5 : Value), ((((((w5.setCell ⟨R, 0, none⟩ x0).setCell ⟨R, 1, none⟩ x1).setCell ⟨R, 2, none⟩ x2).setCell ⟨R, 3, none⟩ x3).setCell ⟨R, 4, none⟩ x4).setCell ⟨R, 5, none⟩ x5).heap[R]? = some (.cells #[x0, x1, x2, x3, x4, x5] 33 (0, 0))) := six_blk HK5.out
        by_cases hn0 : n5 < 0
        · clear hno
          go_wp2_with fail
          refine bodyPost_ret (res_ins3 Tryd.results14 (HS.out _ _ _ _ _ _) rfl rfl rfl) rfl ⟨by rw [HN.out]; rfl, ?_⟩
          rw [HRR.out]
          exact (((((HB5.out.setCell (Nat.le_refl _) _).setCell (Nat.le_refl _) _).setCell (Nat.le_refl _) _).setCell (Nat.le_refl _) _).setCell (Nat.le_refl _) _).setCell (Nat.le_refl _) _
        · have hn1 : (L.length : Int) - (b : Int) < n5 := by omega
          clear hno
          go_wp2_with fail
          refine bodyPost_ret (res_ins3 Tryd.results14 (HS.out _ _ _ _ _ _) rfl rfl rfl) rfl ⟨by rw [HN.out]; rfl, ?_⟩
          rw [HRR.out]
          exact (((((HB5.out.setCell (Nat.le_refl _) _).setCell (Nat.le_refl _) _).setCell (Nat.le_refl _) _).setCell (Nat.le_refl _) _).setCell (Nat.le_refl _) _).setCell (Nat.le_refl _) _
  · obtain ⟨hb5, hk5⟩ := HBE.out w5 ns hgn
    have HN : Hid (rdI L (L.length + 100) a = none) := by show _ = _; unfold rdI; rw [hrd]
    have HB5 : Hid (Below R w w5) := hb5
    have HS : Hid (∀ (x0 x1 x2 x3 x4 x5 : Value), ((((((w5.setCell ⟨R, 0, none⟩ x0).setCell ⟨R, 1, none⟩ x1).setCell ⟨R, 2, none⟩ x2).setCell ⟨R, 3, none⟩ x3).setCell ⟨R, 4, none⟩ x4).setCell ⟨R, 5, none⟩ x5).heap[R]? = some (.cells #[x0, x1, x2, x3, x4, x5] 33 (0, 0))) := six_blk hk5
    have d0 : w5.cell? ⟨R, 0, none⟩ = some (.int .i64 0) := by rw [cell_blk hk5]; rfl
    have d1 : w5.cell? ⟨R, 1, none⟩ = some (.int .i64 0) := by rw [cell_blk hk5]; rfl
    have d2 : w5.cell? ⟨R, 2, none⟩ = some (.int .i64 0) := by rw [cell_blk hk5]; rfl
    have d3 : w5.cell? ⟨R, 3, none⟩ = some (.int .i64 0) := by rw [cell_blk hk5]; rfl
    have d4 : w5.cell? ⟨R, 4, none⟩ = some (.int .i64 0) := by rw [cell_blk hk5]; rfl
    have d5 : w5.cell? ⟨R, 5, none⟩ = some (.string ⟨#[]⟩) := by rw [cell_blk hk5]; rfl
    have df : ∀ o, w5.frozen? ⟨R, o, none⟩ = false := fun o => free_blk hk5
    clear hrd hgn hb5 hk5
    go_wp2_with fail
    refine bodyPost_ret (res_ins3 Tryd.results14 (HS.out _ _ _ _ _ _) rfl rfl rfl) rfl ⟨by rw [HN.out]; rfl, ?_⟩
    rw [HRR.out]
    exact (((((HB5.out.setCell (Nat.le_refl _) _).setCell (Nat.le_refl _) _).setCell (Nat.le_refl _) _).setCell (Nat.le_refl _) _).setCell (Nat.le_refl _) _).setCell (Nat.le_refl _) _
end Go.Proofs.YtpjhipekjilejaaDoor.Cb
namespace Go.Proofs.YtpjhipekjilejaaDoor.Cb
open Go.RowKit
open Go.Proofs.YtpjhipekjilejaaDoor.By
open Go.Proofs.YtpjhipekjilejaaDoor.Code (I codeB specOk RowI SmI Bx6 zeroI insL)
set_option linter.unusedVariables false

/-- A row of n instructions of one's own that is being filled: the first ones are l. -/
structure Fl (w wr : World) (g n : Nat) (l : List I) : Prop where
  below : Below w.heap.size w wr
  lt : g < wr.heap.size
  ge : w.heap.size ≤ g
  full : ∀ j, j < n * 6 → ∃ v, wr.cell? ⟨g, j, none⟩ = some v
  free : ∀ o, wr.frozen? ⟨g, o, none⟩ = false
  rep : ∀ i (hi : i < l.length), Bx6 wr g (i * 6) l[i]
theorem Fl.call {w wr w' : World} {g n : Nat} {l : List I} (h : Fl w wr g n l) (hb : Below wr.heap.size wr w') : Fl w w' g n l :=
  ⟨h.below.trans (hb.mono h.below.size), Nat.lt_of_lt_of_le h.lt hb.size, h.ge, fun j hj => by rw [hb.cell (p := ⟨g, j, none⟩) h.lt]; exact h.full j hj,
    fun o => by rw [hb.frozen (p := ⟨g, o, none⟩) h.lt]; exact h.free o, fun i hi => (h.rep i hi).below hb⟩
theorem six_other {w : World} {g j o : Nat} {a b c d e f : Value} (h : o < j * 6 ∨ j * 6 + 6 ≤ o) :
    ((((((w.setCell ⟨g, j * 6, none⟩ a).setCell ⟨g, j * 6 + 1, none⟩ b).setCell ⟨g, j * 6 + 2, none⟩ c).setCell ⟨g, j * 6 + 3, none⟩ d).setCell ⟨g, j * 6 + 4, none⟩ e).setCell ⟨g, j * 6 + 5, none⟩ f).cell? ⟨g, o, none⟩ = w.cell? ⟨g, o, none⟩ := by
  rw [World.cell?_setCell_other (h := by simp <;> omega), World.cell?_setCell_other (h := by simp <;> omega), World.cell?_setCell_other (h := by simp <;> omega), World.cell?_setCell_other (h := by simp <;> omega), World.cell?_setCell_other (h := by simp <;> omega), World.cell?_setCell_other (h := by simp <;> omega)]
theorem six_same {w : World} {g j : Nat} {x : I} (hs : ∀ k, k < 6 → ∃ v, w.cell? ⟨g, j * 6 + k, none⟩ = some v) :
    Bx6 ((((((w.setCell ⟨g, j * 6, none⟩ (.int .i64 x.op)).setCell ⟨g, j * 6 + 1, none⟩ (.int .i64 x.a)).setCell ⟨g, j * 6 + 2, none⟩ (.int .i64 x.b)).setCell ⟨g, j * 6 + 3, none⟩ (.int .i64 x.c)).setCell ⟨g, j * 6 + 4, none⟩ (.int .i64 x.n)).setCell ⟨g, j * 6 + 5, none⟩ (.string x.s)) g (j * 6) x := by
  obtain ⟨v0, h0⟩ := hs 0 (by decide)
  obtain ⟨v1, h1⟩ := hs 1 (by decide)
  obtain ⟨v2, h2⟩ := hs 2 (by decide)
  obtain ⟨v3, h3⟩ := hs 3 (by decide)
  obtain ⟨v4, h4⟩ := hs 4 (by decide)
  obtain ⟨v5, h5⟩ := hs 5 (by decide)
  have o : ∀ {w : World} {p q : Nat} {v : Value}, p ≠ q → (w.setCell ⟨g, p, none⟩ v).cell? ⟨g, q, none⟩ = w.cell? ⟨g, q, none⟩ := fun {w p q v} h => World.cell?_setCell_other w ⟨g, p, none⟩ ⟨g, q, none⟩ v (by simp <;> exact h)
  rw [Nat.add_zero] at h0
  refine ⟨?_, ?_, ?_, ?_, ?_, ?_⟩
  · rw [o (by omega), o (by omega), o (by omega), o (by omega), o (by omega)]; exact World.cell?_setCell_same _ _ _ h0
  · rw [o (by omega), o (by omega), o (by omega), o (by omega)]; exact World.cell?_setCell_same _ _ _ (by rw [o (by omega)]; exact h1)
  · rw [o (by omega), o (by omega), o (by omega)]; exact World.cell?_setCell_same _ _ _ (by rw [o (by omega), o (by omega)]; exact h2)
  · rw [o (by omega), o (by omega)]; exact World.cell?_setCell_same _ _ _ (by rw [o (by omega), o (by omega), o (by omega)]; exact h3)
  · rw [o (by omega)]; exact World.cell?_setCell_same _ _ _ (by rw [o (by omega), o (by omega), o (by omega), o (by omega)]; exact h4)
  · exact World.cell?_setCell_same _ _ _ (by rw [o (by omega), o (by omega), o (by omega), o (by omega), o (by omega)]; exact h5)
theorem Fl.put {w wr : World} {g n : Nat} {l : List I} (h : Fl w wr g n l) (hl : l.length < n) (x : I) :
    Fl w ((((((wr.setCell ⟨g, l.length * 6, none⟩ (.int .i64 x.op)).setCell ⟨g, l.length * 6 + 1, none⟩ (.int .i64 x.a)).setCell ⟨g, l.length * 6 + 2, none⟩ (.int .i64 x.b)).setCell ⟨g, l.length * 6 + 3, none⟩ (.int .i64 x.c)).setCell ⟨g, l.length * 6 + 4, none⟩ (.int .i64 x.n)).setCell ⟨g, l.length * 6 + 5, none⟩ (.string x.s)) g n (l ++ [x]) := by
  have hge := h.ge
  have hbx := six_same (w := wr) (g := g) (j := l.length) (x := x) (fun k hk => h.full _ (by omega))
  refine ⟨((((((h.below.setCell hge _).setCell hge _).setCell hge _).setCell hge _).setCell hge _).setCell hge _), by simp only [World.size_setCell]; exact h.lt, hge, fun j hj => ?_, fun o => by simp only [World.frozen?_setCell]; exact h.free o, fun i hi => ?_⟩
  · by_cases hin : j < l.length * 6 ∨ l.length * 6 + 6 ≤ j
    · rw [six_other hin]; exact h.full j hj
    · rcases (show j = l.length * 6 ∨ j = l.length * 6 + 1 ∨ j = l.length * 6 + 2 ∨ j = l.length * 6 + 3 ∨ j = l.length * 6 + 4 ∨ j = l.length * 6 + 5 by omega) with rfl | rfl | rfl | rfl | rfl | rfl
      · exact ⟨_, hbx.c0⟩
      · exact ⟨_, hbx.c1⟩
      · exact ⟨_, hbx.c2⟩
      · exact ⟨_, hbx.c3⟩
      · exact ⟨_, hbx.c4⟩
      · exact ⟨_, hbx.c5⟩
  · by_cases e : i = l.length
    · subst e
      rw [List.getElem_append_right (Nat.le_refl _)]
      simp only [Nat.sub_self, List.getElem_cons_zero]
      exact hbx
    · have hi2 : i < l.length := by simp at hi; omega
      rw [List.getElem_append_left hi2]
      have hb := h.rep i hi2
      have k : ∀ m, m < 6 → i * 6 + m < l.length * 6 ∨ l.length * 6 + 6 ≤ i * 6 + m := fun m hm => by omega
      have k0 := k 0 (by decide)
      rw [Nat.add_zero] at k0
      exact ⟨by rw [six_other k0]; exact hb.c0, by rw [six_other (k 1 (by decide))]; exact hb.c1, by rw [six_other (k 2 (by decide))]; exact hb.c2, by rw [six_other (k 3 (by decide))]; exact hb.c3, by rw [six_other (k 4 (by decide))]; exact hb.c4, by rw [six_other (k 5 (by decide))]; exact hb.c5⟩
theorem fl_start (w w0 : World) (n : Nat) (hb : Below w.heap.size w w0) : Fl w (w0.alloc (.cells (Code.zeros6 n) 33)) w0.heap.size n [] where
  below := hb.alloc hb.size _
  lt := by rw [World.size_alloc]; omega
  ge := hb.size
  full := fun j hj => by
    rw [World.cell?_alloc_new]
    have hs : (Code.zeros6 n).size = n * 6 := by unfold Code.zeros6; exact size_madeCells _ _
    exact ⟨_, Array.getElem?_eq_getElem (by rw [hs]; exact hj)⟩
  free := fun o => World.frozen?_alloc_new w0 _ _ o
  rep := fun i hi => by simp at hi
theorem Fl.row {w wr : World} {g : Nat} {l : List I} (h : Fl w wr g l.length l) : RowI wr (some ⟨g, 0, none⟩) l := .inr ⟨g, 0, rfl, fun j hj => by rw [Nat.zero_add]; exact h.rep j hj⟩

/-- What GetCode answers: a row of one's own, or nothing. -/
def GcP (L : List UInt8) (w : World) (e : Ending) (w' : World) : Prop :=
  (∃ l g, getC L = some l ∧ e = .returned (.tuple #[.slice (some ⟨g, 0, none⟩) l.length l.length, .bool true]) ∧ Fl w w' g l.length l) ∨
  (getC L = none ∧ ∃ g, e = .returned (.tuple #[.slice (some ⟨g, 0, none⟩) 0 0, .bool false]) ∧ Below w.heap.size w w')

set_option maxHeartbeats 2000000 in
set_option maxRecDepth 100000 in
theorem implGetC_any (ao : Option Addr) (cap : Nat) (L : List UInt8) (w : World) (hr : RdB w ao L) (hN : L.length ≤ 1048600) (hcap : L.length ≤ cap) (hS : Code.Shp w) (hP : Code.Pow w) (hE : Es.Ety w) :
    Calls Tryd.prog 8 #[.slice ao L.length cap] w fun e w' => GcP L w e w' := by
  have HR : Hid (RdB w ao L) := hr
  have HG : Hid (Code.Shp w ∧ Code.Pow w ∧ Es.Ety w) := ⟨hS, hP, hE⟩
  have HGA : Hid (getCm L (L.length + 100) = getC L) := get_any L _ (by omega) (Int.le_refl _)
  clear hr hS hP hE
  go_enter Tryd.func8, Tryd.ntmps8
  go_wp2_with fail
  refine (implGet_any ao cap L 0 w HR.out hN hcap).mono ?_
  rintro e w1 ⟨rfl, hw1⟩
  obtain rfl := hw1.symm
  clear hw1
  cases hg : getB L 0 with
  | none =>
    have HNO : Hid (getC L = none) := by show _ = _; rw [← HGA.out]; unfold getCm; rw [hg]
    rw [show ansN none = .tuple #[.int .i64 0, .int .i64 0, .bool false] from rfl]
    clear hg
    go_wp2_with fail
    refine bodyPost_ret (v := .tuple #[.slice (some ⟨w.heap.size, 0, none⟩) 0 0, .bool false]) (by simp [results, Tryd.results8, go_sem]) rfl (.inr ⟨HNO.out, _, rfl, (Below.refl _ _).alloc (Nat.le_refl _) _⟩)
  | some p =>
    obtain ⟨n, e0⟩ := p
    rw [show ansN (some (n, e0)) = .tuple #[.int .i64 n, .int .i64 e0, .bool true] from rfl]
    by_cases hn : 1 ≤ n ∧ n ≤ 200
    · have hget : getC L = okC L (rdIs L (L.length + 100) n.toNat e0) := by rw [← HGA.out]; unfold getCm; rw [hg]; simp only; rw [if_pos hn]
      obtain ⟨k, rfl⟩ : ∃ k : Nat, n = k := ⟨n.toNat, by omega⟩
      rw [Int.toNat_natCast] at hget
      have HGET : Hid (getC L = okC L (rdIs L (L.length + 100) k e0)) := hget
      have hk1 : 1 ≤ k := by omega
      have hk2 : k ≤ 200 := by omega
      have hmk := Code.run_zeros6 k (by omega)
      have HF0 : Hid (Fl w (w.alloc (.cells (Code.zeros6 k) 33)) w.heap.size k []) := fl_start w w k (Below.refl _ _)
      have HA0 : Hid (addIs [] (rdIs L (L.length + 100) (k - ([] : List I).length) e0) = rdIs L (L.length + 100) k e0) := addIs_nil _
      clear hg hn hget
      go_wp2_with fail
      clear hmk
      go_loopw [5, 6, 8, 30] (fun ev _ _ iv wr => ∃ (l : List I) (e : Int), l.length ≤ k ∧ iv = .int .i64 l.length ∧ ev = .int .i64 e ∧ addIs l (rdIs L (L.length + 100) (k - l.length) e) = rdIs L (L.length + 100) k e0 ∧ Fl w wr w.heap.size k l) (fun _ _ _ iv _ => k - (intOf iv).toNat)
      case atStart => exact ⟨[], e0, Nat.zero_le _, rfl, rfl, HA0.out, HF0.out⟩
      case round =>
        obtain ⟨l, e, hl, rfl, rfl, hE, hf⟩ := hrel
        have HE : Hid (addIs l (rdIs L (L.length + 100) (k - l.length) e) = rdIs L (L.length + 100) k e0) := hE
        have HF : Hid (Fl w wr w.heap.size k l) := hf
        clear hE hf
        by_cases hlt : l.length < k
        · go_wp2_with fail
          refine (getIns_any ao cap L e wr (HR.out.below HF.out.below) hN hcap).mono ?_
          rintro e' w2 ⟨rfl, hb2⟩
          have HF2 : Hid (Fl w w2 w.heap.size k l) := HF.out.call hb2
          clear hb2
          obtain ⟨x0, hs0⟩ := HF2.out.full (l.length * 6) (by omega)
          obtain ⟨x1, hs1⟩ := HF2.out.full (l.length * 6 + 1) (by omega)
          obtain ⟨x2, hs2⟩ := HF2.out.full (l.length * 6 + 2) (by omega)
          obtain ⟨x3, hs3⟩ := HF2.out.full (l.length * 6 + 3) (by omega)
          obtain ⟨x4, hs4⟩ := HF2.out.full (l.length * 6 + 4) (by omega)
          obtain ⟨x5, hs5⟩ := HF2.out.full (l.length * 6 + 5) (by omega)
          have hfz := HF2.out.free
          cases hri : rdI L (L.length + 100) e with
          | none =>
            have HNO : Hid (getC L = none) := by
              show _ = _
              rw [HGET.out, ← HE.out, show k - l.length = (k - l.length - 1) + 1 by omega, addIs_none L _ l _ e hri]; rfl
            have HB : Hid (Below w.heap.size w ((((((w2.setCell ⟨w.heap.size, l.length * 6, none⟩ (.int .i64 0)).setCell ⟨w.heap.size, l.length * 6 + 1, none⟩ (.int .i64 0)).setCell ⟨w.heap.size, l.length * 6 + 2, none⟩ (.int .i64 0)).setCell ⟨w.heap.size, l.length * 6 + 3, none⟩ (.int .i64 0)).setCell ⟨w.heap.size, l.length * 6 + 4, none⟩ (.int .i64 0)).setCell ⟨w.heap.size, l.length * 6 + 5, none⟩ (.string ⟨#[]⟩))) := (HF2.out.put hlt ⟨0, 0, 0, 0, 0, ⟨#[]⟩⟩).below
            rw [show ansI none = .tuple #[.agg #[.int .i64 0, .int .i64 0, .int .i64 0, .int .i64 0, .int .i64 0, .string ⟨#[]⟩], .int .i64 0, .bool false] from rfl]
            clear hri
            go_wp2_with fail
            refine bodyPost_ret (v := .tuple #[.slice (some ⟨w2.heap.size, 0, none⟩) 0 0, .bool false]) (by simp [results, Tryd.results8, go_sem]) rfl (.inr ⟨HNO.out, _, rfl, HB.out.alloc HB.out.size _⟩)
          | some q =>
            obtain ⟨x, e2⟩ := q
            have HE2 : Hid (addIs (l ++ [x]) (rdIs L (L.length + 100) (k - (l ++ [x]).length) e2) = rdIs L (L.length + 100) k e0) := by
              show _ = _
              rw [← HE.out, show k - l.length = (k - l.length - 1) + 1 by omega, addIs_step L _ l _ e e2 x hri]
              congr 2
              rw [List.length_append]
              simp
              try omega
            have HL2 : Hid ((l ++ [x]).length = l.length + 1) := by show _ = _; simp
            have HF3 := HF2.out.put hlt x
            have HFF : Hid (Fl w _ w.heap.size k (l ++ [x])) := HF3
            rw [show ansI (some (x, e2)) = .tuple #[.agg #[.int .i64 x.op, .int .i64 x.a, .int .i64 x.b, .int .i64 x.c, .int .i64 x.n, .string x.s], .int .i64 e2, .bool true] from rfl]
            clear hri HF3
            go_wp2_with fail
            go_roundw
            case rel => exact ⟨l ++ [x], e2, by rw [HL2.out]; omega, by rw [HL2.out]; go_num, rfl, HE2.out, HFF.out⟩
            case measure => simp [intOf]; omega
        · have hlk : l.length = k := by omega
          subst hlk
          have hEE : rdIs L (L.length + 100) l.length e0 = some (l, e) := by
            rw [← HE.out, Nat.sub_self]; simp [rdIs, addIs]
          have HSM : Hid (SmI maxLen l) := fun x hx => by
            have := rdIs_small hEE x hx
            unfold maxLen; omega
          have HGT : Hid (getC L = okC L (some (l, e))) := by show _ = _; rw [HGET.out, hEE]
          clear hEE
          by_cases he : e = (L.length : Int)
          · subst he
            have HCO : Hid (∀ w', w' = wr → Calls Tryd.prog 9 #[.slice (some ⟨w.heap.size, 0, none⟩) l.length l.length] w' fun e w'' => e = .returned (.bool (codeB l)) ∧ Below w'.heap.size w' w'') := fun w' h => by
              subst h
              exact Code.implCode_any l (some ⟨w.heap.size, 0, none⟩) l.length w' HF.out.row HSM.out (by omega) (HG.out.1.below HF.out.below) (HG.out.2.1.below HF.out.below) (HG.out.2.2.below HF.out.below)
            cases hcb : codeB l with
            | true =>
              have HY : Hid (getC L = some l) := by show _ = _; rw [HGT.out]; exact okC_of hcb
              rw [hcb] at HCO
              clear hcb
              go_wp2_with (go_at_call 9; refine (HCO.out _ rfl).mono ?_; rintro e w3 ⟨rfl, hb3⟩; have HF3 : Hid (Fl w w3 w.heap.size l.length l) := HF.out.call hb3; clear hb3)
              refine bodyPost_ret (v := .tuple #[.slice (some ⟨w.heap.size, 0, none⟩) l.length l.length, .bool true]) (by simp [results, Tryd.results8, go_sem]) rfl (.inl ⟨l, _, HY.out, rfl, HF3.out⟩)
            | false =>
              have HNO : Hid (getC L = none) := by
                show _ = _
                rw [HGT.out]; unfold okC; simp only; rw [if_neg (by rw [hcb]; simp)]
              rw [hcb] at HCO
              clear hcb
              go_wp2_with (go_at_call 9; refine (HCO.out _ rfl).mono ?_; rintro e w3 ⟨rfl, hb3⟩; have HF3 : Hid (Fl w w3 w.heap.size l.length l) := HF.out.call hb3; clear hb3)
              refine bodyPost_ret (v := .tuple #[.slice (some ⟨w3.heap.size, 0, none⟩) 0 0, .bool false]) (by simp [results, Tryd.results8, go_sem]) rfl (.inr ⟨HNO.out, _, rfl, HF3.out.below.alloc HF3.out.below.size _⟩)
          · have HNO : Hid (getC L = none) := by
              show _ = _
              rw [HGT.out]; unfold okC; simp only; rw [if_neg (fun h => he h.1)]
            have hne : (e != (L.length : Int)) = true := by simpa using he
            clear he
            go_wp2_with fail
            refine bodyPost_ret (v := .tuple #[.slice (some ⟨wr.heap.size, 0, none⟩) 0 0, .bool false]) (by simp [results, Tryd.results8, go_sem]) rfl (.inr ⟨HNO.out, _, rfl, HF.out.below.alloc HF.out.below.size _⟩)
    · have HNO : Hid (getC L = none) := by show _ = _; rw [← HGA.out]; unfold getCm; rw [hg]; simp only; rw [if_neg hn]
      clear hg
      by_cases h1 : n < 1
      · clear hn
        go_wp2_with fail
        refine bodyPost_ret (v := .tuple #[.slice (some ⟨w.heap.size, 0, none⟩) 0 0, .bool false]) (by simp [results, Tryd.results8, go_sem]) rfl (.inr ⟨HNO.out, _, rfl, (Below.refl _ _).alloc (Nat.le_refl _) _⟩)
      · have h2 : 200 < n := by omega
        clear hn
        go_wp2_with fail
        refine bodyPost_ret (v := .tuple #[.slice (some ⟨w.heap.size, 0, none⟩) 0 0, .bool false]) (by simp [results, Tryd.results8, go_sem]) rfl (.inr ⟨HNO.out, _, rfl, (Below.refl _ _).alloc (Nat.le_refl _) _⟩)
end Go.Proofs.YtpjhipekjilejaaDoor.Cb
