/-
  The law over GensRead is walked.
-/
import Derived.Test.YthdoamdjhpkimaaXgA
namespace Go.Proofs.Ythdoamdjhpkimaa
open Go.RowKit
set_option linter.unusedVariables false

/-- What the law has in hand behind the program's first answer: where the copies and the answer stand. -/
structure StG (w1 w7 : World) (N M : Nat) (mk : Int) (g8 y8 B8 S9 NL lo B11 : Nat) (k n : Int) (s : ByteArray) (ao : Option Addr) (ln cap : Nat) (l : List Tm) (wk : World) : Prop where
  b1 : Below w1.heap.size w1 wk
  b7 : Below w7.heap.size w7 wk
  xx : ∀ o, wk.cell? ⟨B8, o, none⟩ = (#[.slice (some ⟨g8, 0, none⟩) N N, .slice (some ⟨y8, 0, none⟩) M M, .int .i64 mk] : Array Value)[o]?
  xg : ∀ o, wk.cell? ⟨B11, o, none⟩ = (#[.int .i64 k, .int .i64 n, .string s, .slice ao ln cap] : Array Value)[o]?
  ow : OwL wk l lo B11 ao
  i8 : ∃ f' h', IG wk g8 y8 N M f' h'
  s9 : ∃ ff, Sts wk S9 NL ff
  lt : B11 < wk.heap.size
  o1 : w1.heap.size ≤ w7.heap.size
  o2 : w7.heap.size ≤ g8
  o25 : g8 < y8
  o3 : y8 < B8
  o4 : B8 < S9
  o5 : S9 < lo
  o6 : lo ≤ B11
theorem StG.below {w1 w7 : World} {N M : Nat} {mk : Int} {g8 y8 B8 S9 NL lo B11 : Nat} {k n : Int} {s : ByteArray} {ao : Option Addr} {ln cap : Nat} {l : List Tm} {wk wk' : World} (h : StG w1 w7 N M mk g8 y8 B8 S9 NL lo B11 k n s ao ln cap l wk) (hb : Below wk.heap.size wk wk') : StG w1 w7 N M mk g8 y8 B8 S9 NL lo B11 k n s ao ln cap l wk' := by
  obtain ⟨f', h', i8⟩ := h.i8
  obtain ⟨ff, s9⟩ := h.s9
  have hlt := h.lt
  have o25 := h.o25
  have o3 := h.o3
  have o4 := h.o4
  have o5 := h.o5
  have o6 := h.o6
  exact ⟨h.b1.trans (hb.mono h.b1.size), h.b7.trans (hb.mono h.b7.size), keep3 hb h.xx, fun o => by rw [hb.cell (p := ⟨B11, o, none⟩) hlt]; exact h.xg o, OwL.keep _ _ _ _ (fun b _ _ hbl => hb.block b hbl) h.ow, ⟨f', h', i8.below hb (by omega)⟩, ⟨ff, s9.below hb (by omega)⟩, Nat.lt_of_lt_of_le hlt hb.size, h.o1, h.o2, o25, o3, o4, o5, o6⟩
/-- Writes into blocks that are neither boxes nor of the answer. -/
theorem StG.turnA {w1 w7 : World} {N M : Nat} {mk : Int} {g8 y8 B8 S9 NL lo B11 : Nat} {k n : Int} {s : ByteArray} {ao : Option Addr} {ln cap : Nat} {l : List Tm} {wk wk' : World} (h : StG w1 w7 N M mk g8 y8 B8 S9 NL lo B11 k n s ao ln cap l wk) (ho : wk'.os = wk.os) (ht : wk'.tape = wk.tape) (hp : wk'.output = wk.output) (hsz : wk.heap.size ≤ wk'.heap.size) (hblk : ∀ b, b ≠ g8 → b ≠ y8 → b ≠ S9 → b < wk.heap.size → wk'.heap[b]? = wk.heap[b]?) (hi : ∃ f' h', IG wk' g8 y8 N M f' h') (hs : ∃ ff, Sts wk' S9 NL ff) : StG w1 w7 N M mk g8 y8 B8 S9 NL lo B11 k n s ao ln cap l wk' := by
  have hlt := h.lt
  have o1 := h.o1
  have o2 := h.o2
  have o25 := h.o25
  have o3 := h.o3
  have o4 := h.o4
  have o5 := h.o5
  have o6 := h.o6
  have hz1 := h.b1.size
  have hz7 := h.b7.size
  exact ⟨⟨ho.trans h.b1.os, ht.trans h.b1.tape, hp.trans h.b1.output, Nat.le_trans hz1 hsz, fun b hb => (hblk b (by omega) (by omega) (by omega) (by omega)).trans (h.b1.block b hb)⟩,
    ⟨ho.trans h.b7.os, ht.trans h.b7.tape, hp.trans h.b7.output, Nat.le_trans hz7 hsz, fun b hb => (hblk b (by omega) (by omega) (by omega) (by omega)).trans (h.b7.block b hb)⟩,
    fun o => by rw [World.cell?_of_block (w := wk) (hblk B8 (by omega) (by omega) (by omega) (by omega))]; exact h.xx o, fun o => by rw [World.cell?_of_block (w := wk) (hblk B11 (by omega) (by omega) (by omega) hlt)]; exact h.xg o,
    OwL.keep _ _ _ _ (fun b hb1 hb2 hbl => hblk b (by omega) (by omega) (by omega) hbl) h.ow, hi, hs, Nat.lt_of_lt_of_le hlt hsz, h.o1, o2, o25, o3, o4, o5, o6⟩
theorem StG.turn {w1 w7 : World} {N M : Nat} {mk : Int} {g8 y8 B8 S9 NL lo B11 : Nat} {k n : Int} {s : ByteArray} {ao : Option Addr} {ln cap : Nat} {l : List Tm} {wk wk' : World} (h : StG w1 w7 N M mk g8 y8 B8 S9 NL lo B11 k n s ao ln cap l wk) (t : Turn S9 wk wk') (hs : ∃ ff, Sts wk' S9 NL ff) : StG w1 w7 N M mk g8 y8 B8 S9 NL lo B11 k n s ao ln cap l wk' := by
  obtain ⟨f', h', i8⟩ := h.i8
  have hlt := h.lt
  have o25 := h.o25
  have o3 := h.o3
  have o4 := h.o4
  have o5 := h.o5
  have o6 := h.o6
  exact h.turnA t.os t.tape t.output t.size (fun b _ _ hn hb => t.block b hb hn) ⟨f', h', ⟨i8.o.turn t (by omega) (by omega), i8.i.turn t (by omega) (by omega), i8.lt⟩⟩ hs
theorem StG.mark {w1 w7 : World} {N M : Nat} {mk : Int} {g8 y8 B8 S9 NL lo B11 : Nat} {k n : Int} {s : ByteArray} {ao : Option Addr} {ln cap : Nat} {l l' : List Tm} {wk wk' : World} (h : StG w1 w7 N M mk g8 y8 B8 S9 NL lo B11 k n s ao ln cap l wk) (ht : Out lo B11 wk wk') (ho : OwL wk' l' lo B11 ao) : StG w1 w7 N M mk g8 y8 B8 S9 NL lo B11 k n s ao ln cap l' wk' := by
  obtain ⟨f', h', i8⟩ := h.i8
  obtain ⟨ff, s9⟩ := h.s9
  have hlt := h.lt
  have o1 := h.o1
  have o2 := h.o2
  have o25 := h.o25
  have o3 := h.o3
  have o4 := h.o4
  have o5 := h.o5
  have o6 := h.o6
  have hz1 := h.b1.size
  have hz7 := h.b7.size
  have hblk : ∀ b, ¬ (lo ≤ b ∧ b < B11) → b < wk.heap.size → wk'.heap[b]? = wk.heap[b]? := fun b hn hb => ht.block b hb hn
  have hc : ∀ b o, ¬ (lo ≤ b ∧ b < B11) → b < wk.heap.size → wk'.cell? ⟨b, o, none⟩ = wk.cell? ⟨b, o, none⟩ := fun b o hn hb => World.cell?_of_block (hblk b hn hb)
  have hf : ∀ b o, ¬ (lo ≤ b ∧ b < B11) → b < wk.heap.size → wk'.frozen? ⟨b, o, none⟩ = wk.frozen? ⟨b, o, none⟩ := fun b o hn hb => World.frozen?_of_block (hblk b hn hb)
  exact ⟨⟨ht.os.trans h.b1.os, ht.tape.trans h.b1.tape, ht.output.trans h.b1.output, Nat.le_trans hz1 ht.size, fun b hb => (hblk b (by omega) (by omega)).trans (h.b1.block b hb)⟩,
    ⟨ht.os.trans h.b7.os, ht.tape.trans h.b7.tape, ht.output.trans h.b7.output, Nat.le_trans hz7 ht.size, fun b hb => (hblk b (by omega) (by omega)).trans (h.b7.block b hb)⟩,
    fun o => by rw [hc B8 o (by omega) (by omega)]; exact h.xx o, fun o => by rw [hc B11 o (by omega) hlt]; exact h.xg o, ho,
    ⟨f', h', ⟨⟨fun j hj => by rw [hc g8 _ (by omega) (by omega)]; exact i8.o.cell j hj, fun x => by rw [hf g8 x (by omega) (by omega)]; exact i8.o.free x⟩, ⟨fun j hj => by rw [hc y8 _ (by omega) (by omega)]; exact i8.i.cell j hj, fun x => by rw [hf y8 x (by omega) (by omega)]; exact i8.i.free x⟩, i8.lt⟩⟩,
    ⟨ff, ⟨fun j hj => by rw [hc S9 _ (by omega) (by omega)]; exact s9.cell j hj, fun x => by rw [hf S9 x (by omega) (by omega)]; exact s9.free x⟩⟩, Nat.lt_of_lt_of_le hlt ht.size, h.o1, o2, o25, o3, o4, o5, o6⟩

set_option maxHeartbeats 8000000 in
set_option maxRecDepth 100000 in
theorem gensRead_law (ao : Option Addr) (N cap : Nat) (f : Nat → Int) (yo : Option Addr) (M ycap : Nat) (fy : Nat → Int) (mk : Int) (av : Option Addr) (acap : Nat) (L : List ByteArray) (x : Int) (w : World)
    (hr : RdG w ao N f yo M fy) (hN : N ≤ maxLen) (hM : M ≤ maxLen) (hf : ∀ j, f j ≤ 9223372036854775807) (hfy : ∀ j, fy j ≤ 9223372036854775807) (hT : RdT w av L) (hL : L.length ≤ maxLen) (hs : ∀ x ∈ L, x.size ≤ maxLen) (hx : x ≤ 9223372036854775807) :
    Calls Try.prog 7 #[.agg #[.slice ao N cap, .slice yo M ycap, .int .i64 mk], .slice av L.length acap, .int .i64 x] w fun e w' => e = .returned (.bool true) ∧ Below w.heap.size w w' := by
  have HR : Hid (RdG w ao N f yo M fy) := hr
  have HM : Hid (M ≤ maxLen) := hM
  have HFY : Hid (∀ j, fy j ≤ 9223372036854775807) := hfy
  have HN : Hid (N ≤ maxLen) := hN
  have HF : Hid (∀ j, f j ≤ 9223372036854775807) := hf
  have HT : Hid (RdT w av L) := hT
  have HL : Hid (L.length ≤ maxLen) := hL
  have HS : Hid (∀ x ∈ L, x.size ≤ maxLen) := hs
  have HX : Hid (x ≤ 9223372036854775807) := hx
  clear hr hN hf hT hL hs hx hM hfy
  go_enter Try.func7, Try.ntmps7
  go_wp2_with fail
  generalize hW1 : w.alloc (.cells #[.slice ao N cap, .slice yo M ycap, .int .i64 mk] 54) = w1
  have hb1 : Below w.heap.size w w1 := by rw [← hW1]; exact (Below.refl _ _).alloc (Nat.le_refl _) _
  have q1 : ∀ o, w1.cell? ⟨w.heap.size, o, none⟩ = (#[.slice ao N cap, .slice yo M ycap, .int .i64 mk] : Array Value)[o]? := fun o => by rw [← hW1]; exact World.cell?_alloc_new w _ _ o
  have HB1 : Hid (Below w.heap.size w w1) := hb1
  have HQ1 : Hid (∀ o, w1.cell? ⟨w.heap.size, o, none⟩ = (#[.slice ao N cap, .slice yo M ycap, .int .i64 mk] : Array Value)[o]?) := q1
  have HR1 : Hid (RdG w1 ao N f yo M fy) := HR.out.below hb1
  have HT1 : Hid (RdT w1 av L) := HT.out.below hb1
  clear hW1 hb1 HR HT
  refine (szGens_any ao N cap yo M ycap mk 1048576 HN.out HM.out rfl _).mono ?_
  rintro e w2 ⟨y, rfl, hb2, hy1, hys⟩
  have q2 := keep3 hb2 HQ1.out
  have HB2 : Hid (Below w1.heap.size w1 w2) := hb2
  clear hb2 q1
  have HYS : Hid (0 ≤ y → Few N M ∧ y ≤ 1048576) := hys
  clear hys
  by_cases hy0 : 0 ≤ y
  case neg =>
    have e : y = -1 := by omega
    subst e
    go_wp2_with fail
    go_ret
    exact ⟨rfl, HB1.out.trans (HB2.out.mono HB1.out.size)⟩
  case pos =>
    have HNS : Hid (Few N M) := (HYS.out hy0).1
    have hy2 := (HYS.out hy0).2
    have HY0 : Hid (0 ≤ y) := hy0
    have HY2 : Hid (y ≤ 1048576) := hy2
    go_wp2_with fail
    refine (szStr2_any av acap L w2 (HT1.out.below HB2.out) HL.out HS.out y HY0.out HY2.out).mono ?_
    rintro e w3 ⟨z, rfl, hw3, hz, hzl⟩
    obtain rfl := hw3.symm
    by_cases hz0 : 0 ≤ z
    case neg =>
      have e : z = -1 := by omega
      subst e
      go_wp2_with fail
      go_ret
      exact ⟨rfl, HB1.out.trans (HB2.out.mono HB1.out.size)⟩
    case pos =>
      have HLS : Hid (L.length ≤ 1048576) := (hzl hz0).1
      have HSB : Hid (∀ x ∈ L, x.size ≤ 1048576) := (hzl hz0).2
      clear hzl
      go_wp2_with fail
      refine (toGens_any ao N cap f yo M ycap fy mk w2 (HR1.out.below HB2.out) HNS.out).mono ?_
      rintro e w4 ⟨g4, y4, rfl, hg4, hi4, hl4, hb4⟩
      have HI4 : Hid (IG w4 g4 y4 N M f fy) := hi4
      have hgl4 : y4 < w4.heap.size := hl4
      have HB4 : Hid (Below w1.heap.size w1 w4) := HB2.out.trans (hb4.mono HB2.out.size)
      have q4 := keep3 hb4 q2
      clear hi4 hl4 hb4
      go_wp2_with fail
      refine (toStr_any av acap L w4 (HT1.out.below HB4.out) HLS.out).mono ?_
      rintro e w5 ⟨rfl, hi5, hl5, hb5⟩
      have HT5 : Hid (Txt w5 w4.heap.size 0 L) := hi5.txt
      have HI5 : Hid (IG w5 g4 y4 N M f fy) := HI4.out.below hb5 hgl4
      have HB5 : Hid (Below w1.heap.size w1 w5) := HB4.out.trans (hb5.mono HB4.out.size)
      have q5 := keep3 hb5 q4
      clear hi5 hl5 hb5
      have HSP : Hid (Calls Try.prog 32 #[.agg #[.slice (some ⟨g4, 0, none⟩) N N, .slice (some ⟨y4, 0, none⟩) M M, .int .i64 mk], .slice (some ⟨w4.heap.size, 0, none⟩) L.length L.length, .int .i64 x] w5 fun e w' => ∃ a b c d' e' f', e = .returned (.tuple #[.agg #[.int .i64 a, .int .i64 b, .string c, .slice d' e' f'], .bool (Gn.readT (HG N f M fy L) x).isSome]) ∧ Below w5.heap.size w5 w' ∧ RepV 0 w' (tOf (Gn.readT (HG N f M fy L) x)) (.agg #[.int .i64 a, .int .i64 b, .string c, .slice d' e' f'])) :=
        specRdG N f M fy mk L g4 y4 w4.heap.size w5 (gsrc_of HI5.out HT5.out HNS.out HLS.out HF.out HFY.out HSB.out) x HX.out
      obtain ⟨A, hA⟩ : ∃ A, (Gn.readT (HG N f M fy L) x).isSome = A := ⟨_, rfl⟩
      obtain ⟨T, hTT⟩ : ∃ T, tOf (Gn.readT (HG N f M fy L) x) = T := ⟨_, rfl⟩
      have HA : Hid ((Gn.readT (HG N f M fy L) x).isSome = A) := hA
      have HTT : Hid (tOf (Gn.readT (HG N f M fy L) x) = T) := hTT
      clear hA hTT
      go_wp2_with fail
      refine HSP.out.mono ?_
      rintro e w6 ⟨va, vb, vc, vd, ve, vf, rfl, hb6, hv6⟩
      rw [HA.out]
      rw [HTT.out] at hv6
      have HB6 : Hid (Below w1.heap.size w1 w6) := HB5.out.trans (hb6.mono HB5.out.size)
      have HV6 : Hid (RepV 0 w6 T (.agg #[.int .i64 va, .int .i64 vb, .string vc, .slice vd ve vf])) := hv6
      have q6 := keep3 hb6 q5
      clear hb6 hv6 HSP q2 q4 q5
      have hwl6 : w.heap.size < w6.heap.size := World.block_lt_of_cell? w6 ⟨w.heap.size, 0, none⟩ (q6 0)
      have q7 : ∀ o, (w6.alloc (.cells #[.int .i64 va, .int .i64 vb, .string vc, .slice vd ve vf] 32)).cell? ⟨w.heap.size, o, none⟩ = (#[.slice ao N cap, .slice yo M ycap, .int .i64 mk] : Array Value)[o]? := keep3 ((Below.refl _ _).alloc (Nat.le_refl _) _) q6
      go_wp2_with fail
      generalize hW7 : (w6.alloc (.cells #[.int .i64 va, .int .i64 vb, .string vc, .slice vd ve vf] 32)) = w7 at q7 ⊢
      have hb7 : Below w6.heap.size w6 w7 := by rw [← hW7]; exact (Below.refl _ _).alloc (Nat.le_refl _) _
      have hw67 : w6.heap.size < w7.heap.size := by rw [← hW7, World.size_alloc]; exact Nat.lt_succ_self _
      have HXW7 : Hid (∀ o, w7.cell? ⟨w6.heap.size, o, none⟩ = (#[.int .i64 va, .int .i64 vb, .string vc, .slice vd ve vf] : Array Value)[o]?) := fun o => by rw [← hW7]; exact World.cell?_alloc_new w6 _ _ o
      have HB7 : Hid (Below w1.heap.size w1 w7) := HB6.out.trans (hb7.mono HB6.out.size)
      have HV7 : Hid (RepV 0 w7 T (.agg #[.int .i64 va, .int .i64 vb, .string vc, .slice vd ve vf])) := repV_below HV6.out hb7
      clear hW7 hb7 q6
      refine (toGens_any ao N cap f yo M ycap fy mk w7 (HR1.out.below HB7.out) HNS.out).mono ?_
      rintro e w8 ⟨g8, y8, rfl, hg8, hi8, hl8, hb8⟩
      have HI8 : Hid (IG w8 g8 y8 N M f fy) := hi8
      have hgl8 : y8 < w8.heap.size := hl8
      have hgy8 : g8 < y8 := hi8.lt
      have hg8' : w7.heap.size ≤ g8 := hg8
      have HC8 : Hid (Below w7.heap.size w7 w8) := hb8
      clear hi8 hl8 hb8 hg8
      go_wp2_with fail
      generalize hW9 : w8.alloc (.cells #[.slice (some ⟨g8, 0, none⟩) N N, .slice (some ⟨y8, 0, none⟩) M M, .int .i64 mk] 57) = w9
      have hb9 : Below w8.heap.size w8 w9 := by rw [← hW9]; exact (Below.refl _ _).alloc (Nat.le_refl _) _
      have hw89 : w8.heap.size < w9.heap.size := by rw [← hW9, World.size_alloc]; exact Nat.lt_succ_self _
      have x9 : ∀ o, w9.cell? ⟨w8.heap.size, o, none⟩ = (#[.slice (some ⟨g8, 0, none⟩) N N, .slice (some ⟨y8, 0, none⟩) M M, .int .i64 mk] : Array Value)[o]? := fun o => by rw [← hW9]; exact World.cell?_alloc_new w8 _ _ o
      have HI9 : Hid (IG w9 g8 y8 N M f fy) := HI8.out.below hb9 hgl8
      have HC9 : Hid (Below w7.heap.size w7 w9) := HC8.out.trans (hb9.mono HC8.out.size)
      have HB9 : Hid (Below w1.heap.size w1 w9) := HB7.out.trans (HC9.out.mono HB7.out.size)
      clear hW9 hb9
      refine (toStr_any av acap L w9 (HT1.out.below HB9.out) HLS.out).mono ?_
      rintro e w10 ⟨rfl, hi10, hl10, hb10⟩
      have HS10 : Hid (Sts w10 w9.heap.size L.length (lf L)) := hi10
      have hw910 : w9.heap.size < w10.heap.size := hl10
      have HI10 : Hid (IG w10 g8 y8 N M f fy) := HI9.out.below hb10 (by omega)
      have HC10 : Hid (Below w7.heap.size w7 w10) := HC9.out.trans (hb10.mono HC9.out.size)
      have x10 := keep3 hb10 x9
      clear hi10 hl10 hb10 x9
      have HIM : Hid (Calls Try.prog 34 #[.agg #[.slice (some ⟨g8, 0, none⟩) N N, .slice (some ⟨y8, 0, none⟩) M M, .int .i64 mk], .slice (some ⟨w9.heap.size, 0, none⟩) L.length L.length, .int .i64 x] w10 fun e w' => ∃ v, e = .returned (.tuple #[v, .bool (Gn.readT (HG N f M fy L) x).isSome]) ∧ Below w10.heap.size w10 w' ∧ OwV w' w10.heap.size w'.heap.size (tOf (Gn.readT (HG N f M fy L) x)) v) :=
        implRdG N f M fy mk L g8 y8 w9.heap.size w10 (gsrc_of HI10.out HS10.out.txt HNS.out HLS.out HF.out HFY.out HSB.out) x HX.out
      have HSM : Hid (∀ k n s l, T = .mk k n s l → cL l ≤ 2900) := fun k n s l e => tOf_smallG (H := HG N f M fy L) x (HTT.out.trans e)
      go_wp2_with fail
      refine HIM.out.mono ?_
      rintro e w11 ⟨v, rfl, hb11, hv11⟩
      rw [HA.out]
      rw [HTT.out] at hv11
      obtain ⟨k, n, s, l⟩ := T
      obtain ⟨ao', cap', rfl, hs', hl', hc', how⟩ := hv11
      have HSL : Hid (cL l ≤ 2900) := HSM.out _ _ _ _ rfl
      have HLC : Hid (s.size ≤ maxLen ∧ l.length ≤ cap' ∧ cap' ≤ maxLen) := ⟨hs', hl', hc'⟩
      have HOW : Hid (OwL w11 l w10.heap.size w11.heap.size ao') := how
      have HC11 : Hid (Below w7.heap.size w7 w11) := HC10.out.trans (hb11.mono HC10.out.size)
      have x11 := keep3 hb11 x10
      have hz11 := hb11.size
      have HI11 : Hid (IG w11 g8 y8 N M f fy) := HI10.out.below hb11 (by omega)
      have HS11 : Hid (Sts w11 w9.heap.size L.length (lf L)) := HS10.out.below hb11 hw910
      have hk12 : Below w11.heap.size w11 (w11.alloc (.cells #[.int .i64 k, .int .i64 n, .string s, .slice ao' l.length cap'] 32)) := (Below.refl _ _).alloc (Nat.le_refl _) _
      have HST12 : Hid (StG w1 w7 N M mk g8 y8 w8.heap.size w9.heap.size L.length w10.heap.size w11.heap.size k n s ao' l.length cap' l (w11.alloc (.cells #[.int .i64 k, .int .i64 n, .string s, .slice ao' l.length cap'] 32))) := by
        have c12 : Below w7.heap.size w7 (w11.alloc (.cells #[.int .i64 k, .int .i64 n, .string s, .slice ao' l.length cap'] 32)) := HC11.out.trans (hk12.mono HC11.out.size)
        exact ⟨HB7.out.trans (c12.mono HB7.out.size), c12, keep3 hk12 x11, fun o => World.cell?_alloc_new w11 _ _ o, OwL.keep _ _ _ _ (fun b _ _ hbl => hk12.block b hbl) HOW.out, ⟨f, fy, HI11.out.below hk12 (by omega)⟩, ⟨_, HS11.out.below hk12 (by omega)⟩, by rw [World.size_alloc]; exact Nat.lt_succ_self _, HB7.out.size, hg8', hgy8, hgl8, hw89, hw910, hz11⟩
      have HUN12 : Hid (IG (w11.alloc (.cells #[.int .i64 k, .int .i64 n, .string s, .slice ao' l.length cap'] 32)) g8 y8 N M f fy ∧ Sts (w11.alloc (.cells #[.int .i64 k, .int .i64 n, .string s, .slice ao' l.length cap'] 32)) w9.heap.size L.length (lf L)) := ⟨HI11.out.below hk12 (by omega), HS11.out.below hk12 (by omega)⟩
      have hg8w : y8 < w11.heap.size := by omega
      have hs9w : w9.heap.size < w11.heap.size := by omega
      have q12 := keep3 HST12.out.b1 HQ1.out
      have xw12 : ∀ o, (w11.alloc (.cells #[.int .i64 k, .int .i64 n, .string s, .slice ao' l.length cap'] 32)).cell? ⟨w6.heap.size, o, none⟩ = (#[.int .i64 va, .int .i64 vb, .string vc, .slice vd ve vf] : Array Value)[o]? := fun o => by rw [HST12.out.b7.cell (p := ⟨w6.heap.size, o, none⟩) hw67]; exact HXW7.out o
      have xx12 := HST12.out.xx
      have xg12 := HST12.out.xg
      clear hb11 how hs' hl' hc' hk12 x10 x11 q7 HIM HSM
      go_wp2_with fail
      generalize (w11.alloc (.cells #[.int .i64 k, .int .i64 n, .string s, .slice ao' l.length cap'] 32)) = w12 at *
      have HRG : Hid (∀ wk l', StG w1 w7 N M mk g8 y8 w8.heap.size w9.heap.size L.length w10.heap.size w11.heap.size k n s ao' l.length cap' l' wk → l' = l → RepV 0 wk (.mk k n s l) (.agg #[.int .i64 k, .int .i64 n, .string s, .slice ao' l.length cap'])) := fun wk l' h e => by
        subst e
        exact ⟨ao', cap', rfl, HLC.out.1, HLC.out.2.1, HLC.out.2.2, RpL.rep _ _ (OwL.rp (B := 0) _ _ _ _ (Nat.zero_le _) h.ow)⟩
      have HRW : Hid (∀ wk l', StG w1 w7 N M mk g8 y8 w8.heap.size w9.heap.size L.length w10.heap.size w11.heap.size k n s ao' l.length cap' l' wk → RepV 0 wk (.mk k n s l) (.agg #[.int .i64 va, .int .i64 vb, .string vc, .slice vd ve vf])) := fun wk l' h => repV_below HV7.out h.b7
      refine (eqT_all _ 0 w12 _ _ (HRG.out _ _ HST12.out rfl) (HRW.out _ _ HST12.out)).mono ?_
      rintro e w13 ⟨rfl, hb13⟩
      have HUN13 : Hid (IG w13 g8 y8 N M f fy ∧ Sts w13 w9.heap.size L.length (lf L)) := ⟨HUN12.out.1.below hb13 (Nat.lt_trans hg8w HST12.out.lt), HUN12.out.2.below hb13 (Nat.lt_trans hs9w HST12.out.lt)⟩
      have HST13 : Hid (StG w1 w7 N M mk g8 y8 w8.heap.size w9.heap.size L.length w10.heap.size w11.heap.size k n s ao' l.length cap' l w13) := HST12.out.below hb13
      have q13 := keep3 HST13.out.b1 HQ1.out
      have xw13 : ∀ o, w13.cell? ⟨w6.heap.size, o, none⟩ = (#[.int .i64 va, .int .i64 vb, .string vc, .slice vd ve vf] : Array Value)[o]? := fun o => by rw [HST13.out.b7.cell (p := ⟨w6.heap.size, o, none⟩) hw67]; exact HXW7.out o
      have xx13 := HST13.out.xx
      have xg13 := HST13.out.xg
      clear hb13 q12 xw12 xx12 xg12
      go_wp2_with fail
      go_region_law (go_simp; go_wp2_with (first
        | (go_at_call 33; refine (toGens_any ao N cap f yo M ycap fy mk _ (HR1.out.below HST13.out.b1.drew) HNS.out).mono ?_; rintro e w14 ⟨g14, y14, rfl, hg14, hi14, hl14, hb14⟩; have HI14 : Hid (IG w14 g14 y14 N M f fy) := hi14; have HST14 : Hid (StG w1 w7 N M mk g8 y8 w8.heap.size w9.heap.size L.length w10.heap.size w11.heap.size k n s ao' l.length cap' l w14) := HST13.out.below (bundrew2 hb14); have HUN14 : Hid (IG w14 g8 y8 N M f fy ∧ Sts w14 w9.heap.size L.length (lf L)) := ⟨HUN13.out.1.below (bundrew2 hb14) (Nat.lt_trans hg8w HST13.out.lt), HUN13.out.2.below (bundrew2 hb14) (Nat.lt_trans hs9w HST13.out.lt)⟩; have xx14 := HST14.out.xx; have q14 := keep3 HST14.out.b1 HQ1.out; clear hg14 hi14 hl14 hb14)
        | (go_at_call 35; refine (eqGens_same _ _ _ _ N N N M M M f fy mk w14 HUN14.out.1.o.rdI HI14.out.o.rdI HUN14.out.1.i.rdI HI14.out.i.rdI HNS.out).mono ?_; rintro e w15 ⟨rfl, hb15⟩; have HST15 : Hid (StG w1 w7 N M mk g8 y8 w8.heap.size w9.heap.size L.length w10.heap.size w11.heap.size k n s ao' l.length cap' l w15) := HST14.out.below hb15; have HUN15 : Hid (IG w15 g8 y8 N M f fy ∧ Sts w15 w9.heap.size L.length (lf L)) := ⟨HUN14.out.1.below hb15 (Nat.lt_trans hg8w HST14.out.lt), HUN14.out.2.below hb15 (Nat.lt_trans hs9w HST14.out.lt)⟩; clear hb15)))
      all_goals
        clear xx14 q14 q13 xw13 xx13 xg13
        have q15 := keep3 HST15.out.b1 HQ1.out
        have xw15 : ∀ o, w15.cell? ⟨w6.heap.size, o, none⟩ = (#[.int .i64 va, .int .i64 vb, .string vc, .slice vd ve vf] : Array Value)[o]? := fun o => by rw [HST15.out.b7.cell (p := ⟨w6.heap.size, o, none⟩) hw67]; exact HXW7.out o
        have xx15 := HST15.out.xx
        have xg15 := HST15.out.xg
        go_wp2_with fail
        refine (toStr_any av acap L w15 (HT1.out.below HST15.out.b1) HLS.out).mono ?_
        rintro e w16 ⟨rfl, hi16, hl16, hb16⟩
        have HN16 : Hid (Txt w16 w15.heap.size 0 L) := hi16.txt
        have HUN16 : Hid (IG w16 g8 y8 N M f fy ∧ Sts w16 w9.heap.size L.length (lf L)) := ⟨HUN15.out.1.below hb16 (Nat.lt_trans hg8w HST15.out.lt), HUN15.out.2.below hb16 (Nat.lt_trans hs9w HST15.out.lt)⟩
        clear hi16 hl16
        have HST16 : Hid (StG w1 w7 N M mk g8 y8 w8.heap.size w9.heap.size L.length w10.heap.size w11.heap.size k n s ao' l.length cap' l w16) := HST15.out.below hb16
        have q16 := keep3 HST16.out.b1 HQ1.out
        have xw16 : ∀ o, w16.cell? ⟨w6.heap.size, o, none⟩ = (#[.int .i64 va, .int .i64 vb, .string vc, .slice vd ve vf] : Array Value)[o]? := fun o => by rw [HST16.out.b7.cell (p := ⟨w6.heap.size, o, none⟩) hw67]; exact HXW7.out o
        have xx16 := HST16.out.xx
        have xg16 := HST16.out.xg
        clear hb16 q15 xw15 xx15 xg15
        go_wp2_with fail
        refine (eqStr_same (some ⟨w9.heap.size, 0, none⟩) (some ⟨w15.heap.size, 0, none⟩) L.length L.length L w16 HUN16.out.2.txt.rd HN16.out.rd (by have := HLS.out; omega)).mono ?_
        rintro e w17 ⟨rfl, hb17⟩
        have HUN17 : Hid (IG w17 g8 y8 N M f fy ∧ Sts w17 w9.heap.size L.length (lf L)) := ⟨HUN16.out.1.below hb17 (Nat.lt_trans hg8w HST16.out.lt), HUN16.out.2.below hb17 (Nat.lt_trans hs9w HST16.out.lt)⟩
        have HST17 : Hid (StG w1 w7 N M mk g8 y8 w8.heap.size w9.heap.size L.length w10.heap.size w11.heap.size k n s ao' l.length cap' l w17) := HST16.out.below hb17
        have q17 := keep3 HST17.out.b1 HQ1.out
        have xw17 : ∀ o, w17.cell? ⟨w6.heap.size, o, none⟩ = (#[.int .i64 va, .int .i64 vb, .string vc, .slice vd ve vf] : Array Value)[o]? := fun o => by rw [HST17.out.b7.cell (p := ⟨w6.heap.size, o, none⟩) hw67]; exact HXW7.out o
        have xx17 := HST17.out.xx
        have xg17 := HST17.out.xg
        clear hb17 q16 xw16 xx16 xg16
        go_wp2_with fail
        refine (markGens_any g8 y8 N M N M f fy mk w17 HUN17.out.1 HNS.out (Nat.lt_trans hg8w HST17.out.lt)).mono ?_
        rintro e w18 ⟨rfl, ht18⟩
        have HN18 : Hid (Sts w18 w9.heap.size L.length (lf L)) := by
          have a1 := HST17.out.o25
          have a2 := HST17.out.o3
          have a3 := HST17.out.o4
          have hbk := ht18.block w9.heap.size (Nat.lt_trans hs9w HST17.out.lt) (by omega) (by omega)
          exact ⟨fun j hj => by rw [World.cell?_of_block (w := w17) hbk]; exact HUN17.out.2.cell j hj, fun x => by rw [World.frozen?_of_block (w := w17) hbk]; exact HUN17.out.2.free x⟩
        have HST18 : Hid (StG w1 w7 N M mk g8 y8 w8.heap.size w9.heap.size L.length w10.heap.size w11.heap.size k n s ao' l.length cap' l w18) := HST17.out.turnA ht18.os ht18.tape ht18.output ht18.size (fun b h1 h2 _ hb => ht18.block b hb h1 h2) ⟨_, _, ht18.ig⟩ ⟨_, HN18.out⟩
        have q18 := keep3 HST18.out.b1 HQ1.out
        have xw18 : ∀ o, w18.cell? ⟨w6.heap.size, o, none⟩ = (#[.int .i64 va, .int .i64 vb, .string vc, .slice vd ve vf] : Array Value)[o]? := fun o => by rw [HST18.out.b7.cell (p := ⟨w6.heap.size, o, none⟩) hw67]; exact HXW7.out o
        have xx18 := HST18.out.xx
        have xg18 := HST18.out.xg
        clear ht18 q17 xw17 xx17 xg17
        have HKN : Hid ((1 : Int) + (N : Int) + (M : Int) = ((1 + N + M : Nat) : Int)) := by show _ = _; omega
        have hNb : (N : Int) + (M : Int) ≤ 1048576 := by have := HNS.out.2.2; omega
        have hNb1 : (N : Int) ≤ 1048576 := by omega
        have hNb2 : (M : Int) ≤ 1048576 := by omega
        have hLb : (L.length : Int) ≤ 1048576 := by have := HLS.out; omega
        go_wp2_with (first | (go_at_call 26; rw [HKN.out]; refine (markStr2_any w9.heap.size L.length L.length (lf L) w18 HN18.out (Nat.lt_trans hs9w HST18.out.lt) (by have := HLS.out; omega) (1 + N + M) (by omega) (by have := HNS.out.2.2; omega)).mono ?_; rintro e w19 ⟨rfl, ht19, hi19⟩; have HST19 : Hid (StG w1 w7 N M mk g8 y8 w8.heap.size w9.heap.size L.length w10.heap.size w11.heap.size k n s ao' l.length cap' l w19) := HST18.out.turn ht19 ⟨_, hi19⟩; have q19 := keep3 HST19.out.b1 HQ1.out; have xw19 : ∀ o, w19.cell? ⟨w6.heap.size, o, none⟩ = (#[.int .i64 va, .int .i64 vb, .string vc, .slice vd ve vf] : Array Value)[o]? := (fun o => by rw [HST19.out.b7.cell (p := ⟨w6.heap.size, o, none⟩) hw67]; exact HXW7.out o); have xx19 := HST19.out.xx; have xg19 := HST19.out.xg; clear ht19 hi19) | (go_at_call 22; refine (eqT_all _ 0 w19 _ _ (HRG.out _ _ HST19.out rfl) (HRW.out _ _ HST19.out)).mono ?_; rintro e w20 ⟨rfl, hb20⟩; have HST20 : Hid (StG w1 w7 N M mk g8 y8 w8.heap.size w9.heap.size L.length w10.heap.size w11.heap.size k n s ao' l.length cap' l w20) := HST19.out.below hb20; have xg20 := HST20.out.xg; clear hb20) | (go_at_call 27; refine (markTerm_any k n s l ao' cap' w20 w10.heap.size w11.heap.size HST20.out.ow (Nat.le_of_lt HST20.out.lt) HLC.out.2.1 HLC.out.2.2 HSL.out).mono ?_; rintro e w21 ⟨rfl, how21, hout21⟩; have HST21 : Hid (StG w1 w7 N M mk g8 y8 w8.heap.size w9.heap.size L.length w10.heap.size w11.heap.size k n s ao' l.length cap' (mrL l 1) w21) := HST20.out.mark hout21 how21; have xg21 := HST21.out.xg; clear how21 hout21) | (go_at_call 28; refine (heldTerm_any k n s l ao' cap' w21 (RpL.rep _ _ (OwL.rp (B := 0) _ _ _ _ (Nat.zero_le _) HST21.out.ow)) HLC.out.2.1 HLC.out.2.2 HSL.out).mono ?_; rintro e w22 ⟨rfl, hb22⟩; have HST22 : Hid (StG w1 w7 N M mk g8 y8 w8.heap.size w9.heap.size L.length w10.heap.size w11.heap.size k n s ao' l.length cap' (mrL l 1) w22) := HST21.out.below hb22; have q22 := keep3 HST22.out.b1 HQ1.out; clear hb22))
        clear xw19 xx19 xg19 xg20 xg21 q19 HST18 HST19 HST20
        refine (toGens_any ao N cap f yo M ycap fy mk w22 (HR1.out.below HST22.out.b1) HNS.out).mono ?_
        rintro e w23 ⟨g23, y23, rfl, hg23, hi23, hl23, hb23⟩
        have HI23 : Hid (IG w23 g23 y23 N M f fy) := hi23
        have hgl23 : y23 < w23.heap.size := hl23
        have HST23 : Hid (StG w1 w7 N M mk g8 y8 w8.heap.size w9.heap.size L.length w10.heap.size w11.heap.size k n s ao' l.length cap' (mrL l 1) w23) := HST22.out.below hb23
        clear hg23 hi23 hl23 hb23 q22
        go_wp2_with fail
        refine (toStr_any av acap L w23 (HT1.out.below HST23.out.b1) HLS.out).mono ?_
        rintro e w24 ⟨rfl, hi24, hl24, hb24⟩
        have HS24 : Hid (Sts w24 w23.heap.size L.length (lf L)) := hi24
        have HI24 : Hid (IG w24 g23 y23 N M f fy) := HI23.out.below hb24 hgl23
        have HST24 : Hid (StG w1 w7 N M mk g8 y8 w8.heap.size w9.heap.size L.length w10.heap.size w11.heap.size k n s ao' l.length cap' (mrL l 1) w24) := HST23.out.below hb24
        clear hi24 hl24 hb24
        have HIM2 : Hid (Calls Try.prog 34 #[.agg #[.slice (some ⟨g23, 0, none⟩) N N, .slice (some ⟨y23, 0, none⟩) M M, .int .i64 mk], .slice (some ⟨w23.heap.size, 0, none⟩) L.length L.length, .int .i64 x] w24 fun e w' => ∃ v, e = .returned (.tuple #[v, .bool (Gn.readT (HG N f M fy L) x).isSome]) ∧ Below w24.heap.size w24 w' ∧ OwV w' w24.heap.size w'.heap.size (tOf (Gn.readT (HG N f M fy L) x)) v) :=
          implRdG N f M fy mk L g23 y23 w23.heap.size w24 (gsrc_of HI24.out HS24.out.txt HNS.out HLS.out HF.out HFY.out HSB.out) x HX.out
        go_wp2_with fail
        refine HIM2.out.mono ?_
        rintro e w25 ⟨v2, rfl, hb25, hv25⟩
        rw [HA.out]
        rw [HTT.out] at hv25
        obtain ⟨ao2, cap2, rfl, hs2, hl2, hc2, how2⟩ := hv25
        have hk26 : Below w25.heap.size w25 (w25.alloc (.cells #[.int .i64 k, .int .i64 n, .string s, .slice ao2 l.length cap2] 32)) := (Below.refl _ _).alloc (Nat.le_refl _) _
        have HST26 : Hid (StG w1 w7 N M mk g8 y8 w8.heap.size w9.heap.size L.length w10.heap.size w11.heap.size k n s ao' l.length cap' (mrL l 1) (w25.alloc (.cells #[.int .i64 k, .int .i64 n, .string s, .slice ao2 l.length cap2] 32))) := (HST24.out.below hb25).below hk26
        have HRH : Hid (RepV 0 (w25.alloc (.cells #[.int .i64 k, .int .i64 n, .string s, .slice ao2 l.length cap2] 32)) (.mk k n s l) (.agg #[.int .i64 k, .int .i64 n, .string s, .slice ao2 l.length cap2])) := repV_below (w := w25) ⟨ao2, cap2, rfl, hs2, hl2, hc2, RpL.rep _ _ (OwL.rp (B := 0) _ _ _ _ (Nat.zero_le _) how2)⟩ hk26
        have xw26 : ∀ o, (w25.alloc (.cells #[.int .i64 k, .int .i64 n, .string s, .slice ao2 l.length cap2] 32)).cell? ⟨w6.heap.size, o, none⟩ = (#[.int .i64 va, .int .i64 vb, .string vc, .slice vd ve vf] : Array Value)[o]? := fun o => by rw [HST26.out.b7.cell (p := ⟨w6.heap.size, o, none⟩) hw67]; exact HXW7.out o
        have xg26 := HST26.out.xg
        clear hb25 hs2 hl2 hc2 how2 hk26 HIM2
        go_wp2_with (first | (go_at_call 22; refine (eqT_all _ 0 _ _ _ HRH.out (HRW.out _ _ HST26.out)).mono ?_; rintro e w27 ⟨rfl, hb27⟩; have HST27 : Hid (StG w1 w7 N M mk g8 y8 w8.heap.size w9.heap.size L.length w10.heap.size w11.heap.size k n s ao' l.length cap' (mrL l 1) w27) := HST26.out.below hb27; have xg27 := HST27.out.xg; clear hb27) | (go_at_call 28; refine (heldTerm_any k n s l ao' cap' w27 (RpL.rep _ _ (OwL.rp (B := 0) _ _ _ _ (Nat.zero_le _) HST27.out.ow)) HLC.out.2.1 HLC.out.2.2 HSL.out).mono ?_; rintro e w28 ⟨rfl, hb28⟩; have HST28 : Hid (StG w1 w7 N M mk g8 y8 w8.heap.size w9.heap.size L.length w10.heap.size w11.heap.size k n s ao' l.length cap' (mrL l 1) w28) := HST27.out.below hb28; clear hb28))
        go_ret
        exact ⟨rfl, HB1.out.trans (HST28.out.b1.mono HB1.out.size)⟩
end Go.Proofs.Ythdoamdjhpkimaa
