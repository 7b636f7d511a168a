/-
  The specification's text of a term: l1Text.
-/
import Derived.Test.YtghfhlheenaacabDoorTxD
namespace Go.Proofs.YtghfhlheenaacabDoor
open Go.RowKit Atom
set_option linter.unusedVariables false

def LText (t : Tm) : Prop := ∀ (B : Nat) (w : World) (v : Value), RepV B w t v → Right t → (text t).length ≤ 9000 →
  Calls Tryd.prog 11 #[v] w fun e w' => e = .returned (.string ⟨(text t).toArray⟩) ∧ Below w.heap.size w w'

theorem cat2 (a : UInt8) (A : List UInt8) : (⟨#[a]⟩ : ByteArray) ++ ⟨A.toArray⟩ = ⟨(a :: A).toArray⟩ := ByteArray.mk_append_mk [a] A
theorem cat3 (a : UInt8) (A : List UInt8) (b : UInt8) : (⟨#[a]⟩ : ByteArray) ++ ⟨A.toArray⟩ ++ ⟨#[b]⟩ = ⟨(a :: (A ++ [b])).toArray⟩ := by
  rw [cat2]; exact ByteArray.mk_append_mk (a :: A) [b]
theorem catc (S A : List UInt8) : (⟨S.toArray⟩ : ByteArray) ++ ⟨#[44]⟩ ++ ⟨A.toArray⟩ = ⟨(S ++ [44] ++ A).toArray⟩ := by
  have h : (⟨S.toArray⟩ : ByteArray) ++ ⟨#[44]⟩ = ⟨(S ++ [44]).toArray⟩ := ByteArray.mk_append_mk S [44]
  rw [h]; exact ByteArray.mk_append_mk _ _
theorem str_back (s : ByteArray) : (⟨s.data.toList.toArray⟩ : ByteArray) = s := by simp

set_option maxHeartbeats 400000 in
theorem ltext_1 (n : Int) (s : ByteArray) (ao : Option Addr) (len cap : Nat) (h0 : -1000000 ≤ n) (h1 : n ≤ 1000000) (w : World) :
    Calls Tryd.prog 11 #[.agg #[.int .i64 1, .int .i64 n, .string s, .slice ao len cap]] w fun e w' => e = .returned (.string ⟨(Lib.itoa n).toArray⟩) ∧ Below w.heap.size w w' := by
  go_enter Tryd.func11, Tryd.ntmps11
  go_wp2_with fail
  refine (num_any n h0 h1 _).mono ?_
  rintro e w1 ⟨rfl, hb1⟩
  have HB : Hid (Below w.heap.size w w1) := ((Below.refl _ _).alloc (Nat.le_refl _) _).trans (hb1.mono (by simp))
  clear hb1
  generalize hA : Lib.itoa n = A at *
  have HA : Hid (Lib.itoa n = A) := hA
  clear hA
  go_wp2_with fail
  go_ret
  exact ⟨ret_str (by rw [HA.out]), HB.out⟩

set_option maxHeartbeats 400000 in
theorem ltext_2 (n : Int) (s : ByteArray) (ao : Option Addr) (len cap : Nat) (w : World) :
    Calls Tryd.prog 11 #[.agg #[.int .i64 2, .int .i64 n, .string s, .slice ao len cap]] w fun e w' => e = .returned (.string s) ∧ Below w.heap.size w w' := by
  go_enter Tryd.func11, Tryd.ntmps11
  go_wp2_with fail
  go_ret
  exact ⟨rfl, (Below.refl _ _).alloc (Nat.le_refl _) _⟩

set_option maxHeartbeats 400000 in
theorem ltext_3 (n : Int) (s : ByteArray) (ao : Option Addr) (len cap : Nat) (h0 : 0 ≤ n) (h1 : n ≤ 99999) (w : World) :
    Calls Tryd.prog 11 #[.agg #[.int .i64 3, .int .i64 n, .string s, .slice ao len cap]] w fun e w' => e = .returned (.string ⟨([60] ++ Lib.itoa n ++ [62]).toArray⟩) ∧ Below w.heap.size w w' := by
  have hl := Lib.itoa_length_le n (by omega) (by omega)
  go_enter Tryd.func11, Tryd.ntmps11
  go_wp2_with fail
  refine (num_any n (by omega) (by omega) _).mono ?_
  rintro e w1 ⟨rfl, hb1⟩
  have HB : Hid (Below w.heap.size w w1) := ((Below.refl _ _).alloc (Nat.le_refl _) _).trans (hb1.mono (by simp))
  clear hb1
  generalize hA : Lib.itoa n = A at *
  have HA : Hid (Lib.itoa n = A) := hA
  clear hA
  go_wp2_with fail
  go_ret
  refine ⟨ret_str ?_, HB.out⟩
  rw [HA.out]; exact cat3 60 A 62

set_option maxHeartbeats 400000 in
theorem ltext_6 (n : Int) (s : ByteArray) (ao : Option Addr) (len cap : Nat) (h : s.size ≤ 40) (w : World) :
    Calls Tryd.prog 11 #[.agg #[.int .i64 6, .int .i64 n, .string s, .slice ao len cap]] w fun e w' => e = .returned (.string ⟨([35] ++ hexL s.data.toList).toArray⟩) ∧ Below w.heap.size w w' := by
  have hl : (hexL s.data.toList).length ≤ 80 := by rw [hexL_length, dlen]; omega
  go_enter Tryd.func11, Tryd.ntmps11
  go_wp2_with fail
  refine (hexS_any _ s (by omega)).mono ?_
  rintro e w1 ⟨rfl, hb1⟩
  have HB : Hid (Below w.heap.size w w1) := ((Below.refl _ _).alloc (Nat.le_refl _) _).trans (hb1.mono (by simp))
  clear hb1
  generalize hA : hexL s.data.toList = A at *
  have HA : Hid (hexL s.data.toList = A) := hA
  clear hA
  go_wp2_with fail
  go_ret
  refine ⟨ret_str ?_, HB.out⟩
  rw [HA.out]; exact cat2 35 A

/-- The loop of a tuple or a list, k being 4 or 5. -/
theorem ltext_45 (k n : Int) (hk : (k == 1) = false ∧ (k == 2) = false ∧ (k == 3) = false ∧ (k == 6) = false) (s : ByteArray) (l : List Tm) (ih : ∀ t, t ∈ l → LText t) (hr : ∀ t, t ∈ l → Right t) (hm : (texts true l).length ≤ 8998)
    (B : Nat) (w : World) (ao : Option Addr) (cap : Nat) (hrep : RepL B w l ao) (hl : l.length ≤ cap) (hc : cap ≤ maxLen) (b : Bool) (hb : (k == 4) = b) :
    Calls Tryd.prog 11 #[.agg #[.int .i64 k, .int .i64 n, .string s, .slice ao l.length cap]] w fun e w' => e = .returned (.string ⟨((if b then [123] else [91]) ++ texts true l ++ (if b then [125] else [93])).toArray⟩) ∧ Below w.heap.size w w' := by
  obtain ⟨k1, k2, k3, k6⟩ := hk
  have IH : Hid (∀ t, t ∈ l → LText t) := ih
  have HR : Hid (∀ t, t ∈ l → Right t) := hr
  have HP : Hid (RepL B w l ao) := hrep
  have HM : Hid ((texts true l).length ≤ 8998) := hm
  clear ih hr hrep hm
  unfold maxLen at hc
  go_enter Tryd.func11, Tryd.ntmps11
  go_wp2_with fail
  go_loopw [3, 4] (fun a i w' => ∃ (j : Nat) (S : List UInt8), j ≤ l.length ∧ i = .int .i64 j ∧ a = .string ⟨S.toArray⟩ ∧ S ++ texts (decide (j = 0)) (l.drop j) = texts true l ∧ Below (w.heap.size + 1) (w.alloc (.cells #[.int .i64 k, .int .i64 n, .string s, .slice ao l.length cap] 29)) w') (fun _ i _ => l.length - (intOf i).toNat)
  case atStart => exact ⟨0, [], Nat.zero_le _, rfl, rfl, rfl, Below.refl _ _⟩
  case round =>
    obtain ⟨j, S, hj, rfl, rfl, hS, hb2⟩ := hrel
    obtain ⟨z1, q1, f1⟩ := one_new hb2
    have HW : Hid (Below w.heap.size w wr) := ((Below.refl _ _).alloc (Nat.le_refl _) _).trans (hb2.mono (by omega))
    have HB2 : Hid (Below (w.heap.size + 1) (w.alloc (.cells #[.int .i64 k, .int .i64 n, .string s, .slice ao l.length cap] 29)) wr) := hb2
    have HS : Hid (S ++ texts (decide (j = 0)) (l.drop j) = texts true l) := hS
    have hSl : S.length ≤ 8998 := by have := HM.out; rw [← hS] at this; simp at this; omega
    clear hb2 hS
    by_cases hlt : j < l.length
    · obtain ⟨bk, off, rfl, hB, ht⟩ := RepL.at l ao ((Keeps.below HW.out B).repL _ _ HP.out) j hlt
      obtain ⟨tk, tn, ts, tao, tlen, tcap, c0, c1, c2, c3, hv⟩ := ht.cells
      have HV : Hid (RepV B wr l[j] (.agg #[.int .i64 tk, .int .i64 tn, .string ts, .slice tao tlen tcap])) := hv
      have HT : Hid (LText l[j]) := IH.out _ (List.getElem_mem hlt)
      have HD : Hid (texts (decide (j = 0)) (l.drop j) = (if decide (j = 0) then [] else [44]) ++ text l[j] ++ texts false (l.drop (j + 1))) := texts_drop l j hlt _
      have hlen : (text l[j]).length ≤ 8998 := Nat.le_trans (len_child _ l true (List.getElem_mem hlt)) HM.out
      clear hv ht
      by_cases h0 : j = 0
      · have hp : ¬ (0 : Int) < (j : Int) := by omega
        have H0 : Hid (j = 0) := h0
        clear h0
        go_wp2_with fail
        refine (HT.out B _ _ HV.out (HR.out _ (List.getElem_mem hlt)) (by omega)).mono ?_
        rintro e w2 ⟨rfl, hb3⟩
        have HB3 : Hid (Below (w.heap.size + 1) (w.alloc (.cells #[.int .i64 k, .int .i64 n, .string s, .slice (some ⟨bk, off, none⟩) l.length cap] 29)) w2) := HB2.out.trans (hb3.mono z1)
        clear hb3
        generalize hA : text l[j] = A at *
        have HA : Hid (text l[j] = A) := hA
        clear hA
        go_wp2_with fail
        go_roundw
        case rel => exact ⟨j + 1, S ++ A, by omega, by go_num, congrArg Value.string (ByteArray.mk_append_mk S A), by rw [← HS.out, HD.out]; simp [H0.out], HB3.out⟩
        case measure => simp [intOf]; omega
      · have hp : (0 : Int) < (j : Int) := by omega
        have H0 : Hid (¬ j = 0) := h0
        clear h0
        go_wp2_with fail
        refine (HT.out B _ _ HV.out (HR.out _ (List.getElem_mem hlt)) (by omega)).mono ?_
        rintro e w2 ⟨rfl, hb3⟩
        have HB3 : Hid (Below (w.heap.size + 1) (w.alloc (.cells #[.int .i64 k, .int .i64 n, .string s, .slice (some ⟨bk, off, none⟩) l.length cap] 29)) w2) := HB2.out.trans (hb3.mono z1)
        clear hb3
        generalize hA : text l[j] = A at *
        have HA : Hid (text l[j] = A) := hA
        clear hA
        go_wp2_with fail
        go_roundw
        case rel => exact ⟨j + 1, S ++ [44] ++ A, by omega, by go_num, congrArg Value.string (catc S A), by rw [← HS.out, HD.out]; simp [H0.out], HB3.out⟩
        case measure => simp [intOf]; omega
    · have hjl : j = l.length := by omega
      have h := HS.out
      rw [hjl, List.drop_length, texts, List.append_nil] at h
      have HT : Hid (S = texts true l) := h
      clear h
      cases b
      · go_wp2_with fail
        go_ret
        exact ⟨ret_str (by rw [← HT.out]; exact cat3 91 S 93), HW.out⟩
      · go_wp2_with fail
        go_ret
        exact ⟨ret_str (by rw [← HT.out]; exact cat3 123 S 125), HW.out⟩

theorem ltext_all : ∀ t, LText t := by
  refine Tm.ind ?_
  intro k n s l ih B w v hv hr hm
  obtain ⟨ao, cap, rfl, hs, hl, hc, hrep⟩ := hv
  obtain ⟨hsh, hch⟩ := hr.open
  rcases shape_cases hsh with ⟨rfl, h1, h2⟩ | ⟨rfl, h1⟩ | ⟨rfl, h1, h2⟩ | rfl | rfl | ⟨rfl, h1⟩
  · have e : text (.mk 1 n s l) = Lib.itoa n := by rw [text]; simp
    rw [e]; exact ltext_1 n s ao l.length cap h1 h2 w
  · have e : text (.mk 2 n s l) = s.data.toList := by rw [text]; simp
    rw [e, str_back]; exact ltext_2 n s ao l.length cap w
  · have e : text (.mk 3 n s l) = [60] ++ Lib.itoa n ++ [62] := by rw [text]; simp
    rw [e]; exact ltext_3 n s ao l.length cap h1 h2 w
  · have e : text (.mk 4 n s l) = [123] ++ texts true l ++ [125] := by rw [text]; simp
    rw [e] at hm ⊢
    exact ltext_45 4 n ⟨rfl, rfl, rfl, rfl⟩ s l ih hch (by simp at hm; omega) B w ao cap hrep hl hc true rfl
  · have e : text (.mk 5 n s l) = [91] ++ texts true l ++ [93] := by rw [text]; simp
    rw [e] at hm ⊢
    exact ltext_45 5 n ⟨rfl, rfl, rfl, rfl⟩ s l ih hch (by simp at hm; omega) B w ao cap hrep hl hc false rfl
  · have e : text (.mk 6 n s l) = [35] ++ hexL s.data.toList := by rw [text]; simp
    rw [e]; exact ltext_6 n s ao l.length cap h1 w
end Go.Proofs.YtghfhlheenaacabDoor
