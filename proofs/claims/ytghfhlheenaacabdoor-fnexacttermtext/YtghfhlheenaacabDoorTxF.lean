/-
  The program's text of a term: appendTerm, kind by kind.
-/
import Derived.Test.YtghfhlheenaacabDoorTxD
import Derived.Test.YtghfhlheenaacabDoorTmF
import Derived.Test.YtghfhlheenaacabDoorShelf
import Derived.Lib.AppendStr
namespace Go.Proofs.YtghfhlheenaacabDoor
open Go.RowKit Atom
set_option linter.unusedVariables false

theorem one_news {W : World} {x : Value} {g : Nat} (hg : g = W.heap.size) : ∀ j u, [x][j]? = some u → (W.alloc (.cells #[x] 5)).cell? ((⟨g, 0, none⟩ : Addr).add j) = some u := by
  subst hg
  have e : (W.alloc (.cells #[x] 5)).heap[W.heap.size]? = some (.cells #[x] 5 (0, 0)) := by
    show (W.heap.push _)[W.heap.size]? = _; simp
  exact World.news_of_block e
abbrev Tab (B : Nat) (w : World) : Prop := Lib.TabBelow Tryd.prog B w "internal/strconv.uint64pow10" .u64 Lib.pow10Tab
/-- What is answered: the slice that owns what it held, and behind it these bytes. -/
def Adds (B : Nat) (w : World) (n : Nat) (xs : List Value) (l : List UInt8) (e : Ending) (w' : World) : Prop :=
  ∃ v', e = .returned v' ∧ w'.ownsRow B 5 1 v' (n + l.length) (xs ++ Lib.byteCells l) ∧ Below B w w'

set_option maxRecDepth 100000 in
set_option maxHeartbeats 1000000 in
theorem ap_1 (B : Nat) (w : World) (v : Value) (n : Nat) (xs : List Value) (m : Int) (s : ByteArray) (ao : Option Addr) (len cap : Nat) (hown : w.ownsRow B 5 1 v n xs) (hB : B ≤ w.heap.size) (hl : n + (Lib.itoa m).length ≤ 100000) (hT : Tab B w) (h0 : -1000000 ≤ m) (h1 : m ≤ 1000000) :
    Calls Tryd.prog 14 #[v, .agg #[.int .i64 1, .int .i64 m, .string s, .slice ao len cap]] w (Adds B w n xs (Lib.itoa m)) := by
  have a47 := assert_80_80
  have HO : Hid (w.ownsRow B 5 1 v n xs) := hown
  have HT : Hid (Tab B w) := hT
  clear hown hT
  go_enter Tryd.func14, Tryd.ntmps14
  go_wp2_with (go_at_call 20; go_in)
  refine (Tryd.strconv_AppendInt_10 B n m (by omega) (by omega) v xs _ ((HO.out.alloc _).alloc _) (by simp; omega) (by omega) (HT.out.on ?_)).mono ?_
  · exact ((Below.refl _ _).alloc hB _).alloc (by simp; omega) _
  rintro e w1 ⟨v1, rfl, ho1, hb1, -⟩
  have HO1 : Hid (w1.ownsRow B 5 1 v1 (n + (Lib.itoa m).length) (xs ++ Lib.byteCells (Lib.itoa m))) := ho1
  have HB1 : Hid (Below B w w1) := (((Below.refl _ _).alloc hB _).alloc (by simp; omega) _).trans hb1
  clear ho1 hb1
  go_wp2_with fail
  go_ret
  exact ⟨_, rfl, HO1.out, HB1.out⟩

set_option maxRecDepth 100000 in
set_option maxHeartbeats 1000000 in
theorem ap_2 (B : Nat) (w : World) (v : Value) (n : Nat) (xs : List Value) (m : Int) (s : ByteArray) (ao : Option Addr) (len cap : Nat) (hown : w.ownsRow B 5 1 v n xs) (hB : B ≤ w.heap.size) (hl : n + s.size ≤ 100000) :
    Calls Tryd.prog 14 #[v, .agg #[.int .i64 2, .int .i64 m, .string s, .slice ao len cap]] w (Adds B w n xs s.data.toList) := by
  obtain ⟨i0, hi, hz0, hz1, hz2⟩ := info_parts infoByte
  have a80 := assert_81_80
  have a81 := assert_81_81
  have HO : Hid (w.ownsRow B 5 1 v n xs) := hown
  clear hown
  go_enter Tryd.func14, Tryd.ntmps14
  go_wp2_with (first | (go_at_call 20; go_in) | (at_builtin; refine Lib.wpList_append_own_string _ rfl (.tmp 22) (.tmp 23) 36 49 rfl B 5 i0 Tryd.underlying36 Tryd.underlying49 hi hz0 hz1 hz2 v n xs rfl ((HO.out.alloc _).alloc _) s rfl (by unfold maxLen; omega) (by omega) (by simp; omega) ?_))
  intro v1 w1 ho1 hg1 _
  have HO1 : Hid (w1.ownsRow B 5 1 v1 (n + s.data.toList.length) (xs ++ Lib.byteCells s.data.toList)) := by show w1.ownsRow _ _ _ _ _ _; rw [dlen]; exact ho1
  have HB1 : Hid (Below B w w1) := (((Below.refl _ _).alloc hB _).alloc (by simp; omega) _).grown hg1 (by simp; omega) (fun k hk => (HO.out.lt k hk).1)
  clear ho1 hg1
  go_wp2_with fail
  go_ret
  exact ⟨_, rfl, HO1.out, HB1.out⟩

set_option maxRecDepth 100000 in
set_option maxHeartbeats 1000000 in
theorem ap_3 (B : Nat) (w : World) (v : Value) (n : Nat) (xs : List Value) (m : Int) (s : ByteArray) (ao : Option Addr) (len cap : Nat) (hown : w.ownsRow B 5 1 v n xs) (hB : B ≤ w.heap.size) (hl : n + (Lib.itoa m).length ≤ 100000) (hT : Tab B w) (h0 : 0 ≤ m) (h1 : m ≤ 99999) :
    Calls Tryd.prog 14 #[v, .agg #[.int .i64 3, .int .i64 m, .string s, .slice ao len cap]] w (Adds B w n xs ([60] ++ Lib.itoa m ++ [62])) := by
  obtain ⟨i0, hi, hz0, hz1, hz2⟩ := info_parts infoByte
  have a80 := assert_82_80
  have a81 := assert_82_81
  have a82 := assert_82_82
  have HO : Hid (w.ownsRow B 5 1 v n xs) := hown
  have HT : Hid (Tab B w) := hT
  clear hown hT
  go_enter Tryd.func14, Tryd.ntmps14
  go_wp2_with (first | (go_at_call 20; go_in) | (at_builtin; refine wpList_append_own _ rfl (.tmp 28) (.tmp 29) 36 rfl B 5 i0 (.int .u8 0) 1 1 Tryd.underlying36 hi hz0 hz1 hz2 rfl (by decide) v (n) _ rfl (((HO.out.alloc _).alloc _).alloc _) ⟨w.heap.size + 1 + 1, 0, none⟩ 1 1 [Value.int .u8 60] rfl rfl (one_news (by simp)) (by intro u' hu'; simp at hu'; subst hu'; rfl) (by unfold maxLen; omega) (by omega) (by simp; omega) ?_))
  intro v1 w1 ho1 hg1 _
  have HO1 : Hid (w1.ownsRow B 5 1 v1 (n + 1) (xs ++ [Value.int .u8 60])) := ho1
  have HB1 : Hid (Below B w w1) := ((((Below.refl _ _).alloc hB _).alloc (by simp; omega) _).alloc (by simp; omega) _).grown hg1 (by simp; omega) (fun k hk => (HO.out.lt k hk).1)
  have hB1 : B ≤ w1.heap.size := Nat.le_trans hB HB1.out.size
  clear ho1 hg1
  go_wp2_with fail
  refine (Tryd.strconv_AppendInt_10 B (n + 1) m (by omega) (by omega) v1 _ w1 HO1.out hB1 (by omega) (HT.out.on HB1.out)).mono ?_
  rintro e w2 ⟨v2, rfl, ho2, hb2, -⟩
  have HO2 : Hid (w2.ownsRow B 5 1 v2 (n + 1 + (Lib.itoa m).length) (xs ++ [Value.int .u8 60] ++ Lib.byteCells (Lib.itoa m))) := ho2
  have HB2 : Hid (Below B w w2) := HB1.out.trans hb2
  have hB2 : B ≤ w2.heap.size := Nat.le_trans hB HB2.out.size
  clear ho2 hb2
  obtain ⟨A, hA⟩ : ∃ A, A = Lib.itoa m := ⟨_, rfl⟩
  rw [← hA] at HO2 hl
  have HA : Hid (A = Lib.itoa m) := hA
  clear hA
  go_wp2_with (at_builtin; refine wpList_append_own _ rfl (.tmp 32) (.tmp 33) 36 rfl B 5 i0 (.int .u8 0) 1 1 Tryd.underlying36 hi hz0 hz1 hz2 rfl (by decide) v2 (n + 1 + A.length) _ rfl (HO2.out.alloc _) ⟨w2.heap.size, 0, none⟩ 1 1 [Value.int .u8 62] rfl rfl (one_news (by simp)) (by intro u' hu'; simp at hu'; subst hu'; rfl) (by unfold maxLen; omega) (by omega) (by simp; omega) ?_)
  intro v3 w3 ho3 hg3 _
  have HO3 : Hid (w3.ownsRow B 5 1 v3 (n + ([60] ++ A ++ [62]).length) (xs ++ Lib.byteCells ([60] ++ A ++ [62]))) := by
    show w3.ownsRow _ _ _ _ _ _
    have e1 : n + ([60] ++ A ++ [62]).length = n + 1 + A.length + 1 := by simp; omega
    have e2 : xs ++ Lib.byteCells ([60] ++ A ++ [62]) = xs ++ [Value.int .u8 60] ++ Lib.byteCells A ++ [Value.int .u8 62] := by simp [Lib.byteCells]
    rw [e1, e2]; simpa using ho3
  have HB3 : Hid (Below B w w3) := (HB2.out.alloc hB2 _).grown hg3 (by simp; omega) (fun k hk => (HO2.out.lt k hk).1)
  clear ho3 hg3
  go_wp2_with fail
  go_ret
  exact ⟨_, rfl, by rw [← HA.out]; exact HO3.out, HB3.out⟩

set_option maxRecDepth 100000 in
set_option maxHeartbeats 1000000 in
theorem ap_6 (B : Nat) (w : World) (v : Value) (n : Nat) (xs : List Value) (m : Int) (s : ByteArray) (ao : Option Addr) (len cap : Nat) (hown : w.ownsRow B 5 1 v n xs) (hB : B ≤ w.heap.size) (hl : n + 1 + 2 * s.size ≤ 100000) :
    Calls Tryd.prog 14 #[v, .agg #[.int .i64 6, .int .i64 m, .string s, .slice ao len cap]] w (Adds B w n xs ([35] ++ hexL s.data.toList)) := by
  obtain ⟨i0, hi, hz0, hz1, hz2⟩ := info_parts infoByte
  have a80 := assert_85_80
  have a81 := assert_85_81
  have a82 := assert_85_82
  have a83 := assert_85_83
  have a84 := assert_85_84
  have a85 := assert_85_85
  have HO : Hid (w.ownsRow B 5 1 v n xs) := hown
  clear hown
  go_enter Tryd.func14, Tryd.ntmps14
  go_wp2_with (first | (go_at_call 20; go_in) | (at_builtin; refine wpList_append_own _ rfl (.tmp 58) (.tmp 59) 36 rfl B 5 i0 (.int .u8 0) 1 1 Tryd.underlying36 hi hz0 hz1 hz2 rfl (by decide) v (n) _ rfl (((HO.out.alloc _).alloc _).alloc _) ⟨w.heap.size + 1 + 1, 0, none⟩ 1 1 [Value.int .u8 35] rfl rfl (one_news (by simp)) (by intro u' hu'; simp at hu'; subst hu'; rfl) (by unfold maxLen; omega) (by omega) (by simp; omega) ?_))
  intro v1 w1 ho1 hg1 _
  have HO1 : Hid (w1.ownsRow B 5 1 v1 (n + 1) (xs ++ [Value.int .u8 35])) := ho1
  have HB1 : Hid (Below B w w1) := ((((Below.refl _ _).alloc hB _).alloc (by simp; omega) _).alloc (by simp; omega) _).grown hg1 (by simp; omega) (fun k hk => (HO.out.lt k hk).1)
  have hB1 : B ≤ w1.heap.size := Nat.le_trans hB HB1.out.size
  clear ho1 hg1
  go_wp2_with fail
  refine (hex_any B w1 v1 (n + 1) _ s HO1.out hB1 hl).mono ?_
  rintro e w2 ⟨v2, rfl, ho2, hb2⟩
  have HO2 : Hid (w2.ownsRow B 5 1 v2 (n + ([35] ++ hexL s.data.toList).length) (xs ++ Lib.byteCells ([35] ++ hexL s.data.toList))) := by
    show w2.ownsRow _ _ _ _ _ _
    have e1 : n + ([35] ++ hexL s.data.toList).length = n + 1 + 2 * s.size := by simp [hexL_length]; omega
    have e2 : xs ++ Lib.byteCells ([35] ++ hexL s.data.toList) = xs ++ [Value.int .u8 35] ++ Lib.byteCells (hexL s.data.toList) := by simp [Lib.byteCells]
    rw [e1, e2]; exact ho2
  have HB2 : Hid (Below B w w2) := HB1.out.trans hb2
  clear ho2 hb2
  go_wp2_with fail
  go_ret
  exact ⟨_, rfl, HO2.out, HB2.out⟩
end Go.Proofs.YtghfhlheenaacabDoor
