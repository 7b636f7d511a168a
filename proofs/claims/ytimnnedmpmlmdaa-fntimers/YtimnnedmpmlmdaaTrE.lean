/-
  One timer: whether it is right (the specification's and the program's), its time, and two of them held against each other.
-/
import Derived.Test.YtimnnedmpmlmdaaTrA
import Derived.Test.YtimnnedmpmlmdaaTmI
import Derived.Test.YtimnnedmpmlmdaaInn
import Derived.Deep.RegionWith
namespace Go.Proofs.Ytimnnedmpmlmdaa.Tr
open Go.RowKit Atom
set_option linter.unusedVariables false

def okT (t : Tm) : Bool := (look t 6 100).isSome
def pidB (x : Int) : Bool := decide (1 ≤ x ∧ x ≤ 99999)
def atB (x : Int) : Bool := decide (0 ≤ x ∧ x ≤ 1000000000)
/-- A timer that is right. -/
def tmB (x : Sd) : Bool := atB x.kind && (pidB x.pid && okT x.t)

theorem isPid_any (x : Int) (w : World) : Calls Try.prog 44 #[.int .i64 x] w fun e w' => e = .returned (.bool (pidB x)) ∧ w' = w := by
  by_cases h1 : 1 ≤ x
  · by_cases h2 : x ≤ 99999
    · have q : pidB x = true := decide_eq_true ⟨h1, h2⟩
      have HQ : Hid (pidB x = true) := q
      clear q
      go_enter Try.func44, Try.ntmps44
      go_wp2
      go_ret
      exact ⟨ret_bool HQ.out.symm, rfl⟩
    · have HQ : Hid (pidB x = false) := decide_eq_false (by omega)
      go_enter Try.func44, Try.ntmps44
      go_wp2
      go_ret
      exact ⟨ret_bool HQ.out.symm, rfl⟩
  · have HQ : Hid (pidB x = false) := decide_eq_false (by omega)
    go_enter Try.func44, Try.ntmps44
    go_wp2
    go_ret
    exact ⟨ret_bool HQ.out.symm, rfl⟩

set_option maxHeartbeats 1000000 in
theorem l14Timer_any (x : Sd) (k n : Int) (s : ByteArray) (ao : Option Addr) (len cap : Nat) (w : World) (hv : RepV 0 w x.t (.agg #[.int .i64 k, .int .i64 n, .string s, .slice ao len cap])) :
    Calls Try.prog 26 #[sdV x.kind x.pid k n s ao len cap] w fun e w' => e = .returned (.bool (tmB x)) ∧ Below w.heap.size w w' := by
  obtain ⟨ta, tp, t⟩ := x
  have HB0 : Hid (Below w.heap.size w (w.alloc (.cells #[.int .i64 ta, .int .i64 tp, .int .i64 k, .int .i64 n, .string s, .slice ao len cap] 32))) := (Below.refl _ _).alloc (Nat.le_refl _) _
  have HC : Hid (∀ wc, Below w.heap.size w wc → Calls Try.prog 47 #[.agg #[.int .i64 k, .int .i64 n, .string s, .slice ao len cap]] wc fun e w' => e = .returned (.bool (okT t)) ∧ Below wc.heap.size wc w') := fun wc hb => specOk_any t 0 wc _ (Below.repV hb hv)
  have HD : Hid (tmB ⟨ta, tp, t⟩ = (Atom.inB ta 0 1000000000 && (Atom.inB tp 1 99999 && okT t))) := rfl
  generalize tmB ⟨ta, tp, t⟩ = r at HD ⊢
  generalize okT t = q at HC HD
  clear hv
  generalize i1 : Atom.inB ta 0 1000000000 = p1 at HD
  generalize i2 : Atom.inB tp 1 99999 = p2 at HD
  cases p1
  · go_enter Try.func26, Try.ntmps26
    go_wp2_with (first | (go_at_call 46; refine (Atom.in_any _ _ _ _).mono ?_; rintro e w' ⟨rfl, hw'⟩; obtain rfl := hw'.symm))
    go_ret
    exact ⟨ret_bool (by rw [HD.out]; rfl), HB0.out⟩
  · cases p2
    · go_enter Try.func26, Try.ntmps26
      go_wp2_with (first | (go_at_call 46; refine (Atom.in_any _ _ _ _).mono ?_; rintro e w' ⟨rfl, hw'⟩; obtain rfl := hw'.symm))
      go_ret
      exact ⟨ret_bool (by rw [HD.out]; rfl), HB0.out⟩
    · go_enter Try.func26, Try.ntmps26
      go_wp2_with (first | (go_at_call 46; refine (Atom.in_any _ _ _ _).mono ?_; rintro e w' ⟨rfl, hw'⟩; obtain rfl := hw'.symm) | (go_at_call 47; refine (HC.out _ HB0.out).mono ?_; rintro e w3 ⟨rfl, hb3⟩; have HB3 : Hid (Below w.heap.size w w3) := HB0.out.trans (hb3.mono HB0.out.size); clear hb3))
      go_ret
      exact ⟨ret_bool (by rw [HD.out]; cases q <;> rfl), HB3.out⟩

set_option maxHeartbeats 1000000 in
theorem isRight_any (x : Sd) (k n : Int) (s : ByteArray) (ao : Option Addr) (len cap : Nat) (w : World) (hv : RepV 0 w x.t (.agg #[.int .i64 k, .int .i64 n, .string s, .slice ao len cap])) :
    Calls Try.prog 25 #[sdV x.kind x.pid k n s ao len cap] w fun e w' => e = .returned (.bool (tmB x)) ∧ Below w.heap.size w w' := by
  obtain ⟨ta, tp, t⟩ := x
  have HB0 : Hid (Below w.heap.size w (w.alloc (.cells #[.int .i64 ta, .int .i64 tp, .int .i64 k, .int .i64 n, .string s, .slice ao len cap] 32))) := (Below.refl _ _).alloc (Nat.le_refl _) _
  have HC : Hid (∀ wc, Below w.heap.size w wc → Calls Try.prog 45 #[.agg #[.int .i64 k, .int .i64 n, .string s, .slice ao len cap]] wc fun e w' => e = .returned (.bool (okT t)) ∧ Below wc.heap.size wc w') := fun wc hb => implOk_any t 0 wc _ (Below.repV hb hv)
  have HD : Hid (tmB ⟨ta, tp, t⟩ = (decide (0 ≤ ta ∧ ta ≤ 1000000000) && (pidB tp && okT t))) := rfl
  generalize tmB ⟨ta, tp, t⟩ = r at HD ⊢
  generalize okT t = q at HC HD
  clear hv
  by_cases h1 : 0 ≤ ta
  rotate_left
  · go_enter Try.func25, Try.ntmps25
    go_wp2_with fail
    go_ret
    exact ⟨ret_bool (by rw [HD.out, decide_eq_false (by omega)]; rfl), HB0.out⟩
  by_cases h2 : ta ≤ 1000000000
  rotate_left
  · go_enter Try.func25, Try.ntmps25
    go_wp2_with fail
    go_ret
    exact ⟨ret_bool (by rw [HD.out, decide_eq_false (by omega)]; rfl), HB0.out⟩
  have HE : Hid (r = (pidB tp && q)) := by show _ = _; rw [HD.out, decide_eq_true ⟨h1, h2⟩]; rfl
  clear HD
  generalize i2 : pidB tp = p2 at HE
  cases p2
  · go_enter Try.func25, Try.ntmps25
    go_wp2_with (first | (go_at_call 44; refine (isPid_any _ _).mono ?_; rintro e w' ⟨rfl, hw'⟩; obtain rfl := hw'.symm))
    go_ret
    exact ⟨ret_bool (by rw [HE.out]; rfl), HB0.out⟩
  · go_enter Try.func25, Try.ntmps25
    go_wp2_with (first | (go_at_call 44; refine (isPid_any _ _).mono ?_; rintro e w' ⟨rfl, hw'⟩; obtain rfl := hw'.symm) | (go_at_call 45; refine (HC.out _ HB0.out).mono ?_; rintro e w3 ⟨rfl, hb3⟩; have HB3 : Hid (Below w.heap.size w w3) := HB0.out.trans (hb3.mono HB0.out.size); clear hb3))
    go_ret
    exact ⟨ret_bool (by rw [HE.out]; cases q <;> rfl), HB3.out⟩

theorem time_any (a p k n : Int) (s : ByteArray) (ao : Option Addr) (len cap : Nat) (w : World) :
    Calls Try.prog 94 #[sdV a p k n s ao len cap] w fun e w' => e = .returned (.int .i64 a) ∧ Below w.heap.size w w' := by
  go_enter Try.func94, Try.ntmps94
  go_wp2_with fail
  go_ret
  exact ⟨rfl, (Below.refl _ _).alloc (Nat.le_refl _) _⟩

def cmpI (x y : Int) : Int := if x < y then -1 else if y < x then 1 else 0
theorem cmpInt_any (x y : Int) (w : World) :
    Calls Try.prog 35 #[.int .i64 x, .int .i64 y] w fun e w' => e = .returned (.int .i64 (cmpI x y)) ∧ w' = w := by
  by_cases h1 : x < y
  · have HC : Hid (cmpI x y = -1) := if_pos h1
    go_enter Try.func35, Try.ntmps35
    go_wp2_with (go_at_call 53; go_in)
    go_ret
    exact ⟨by rw [HC.out]; rfl, rfl⟩
  · by_cases h2 : y < x
    · have HC : Hid (cmpI x y = 1) := (if_neg h1).trans (if_pos h2)
      go_enter Try.func35, Try.ntmps35
      go_wp2_with (go_at_call 53; go_in)
      go_ret
      exact ⟨by rw [HC.out]; rfl, rfl⟩
    · have HC : Hid (cmpI x y = 0) := (if_neg h1).trans (if_neg h2)
      go_enter Try.func35, Try.ntmps35
      go_wp2_with (go_at_call 53; go_in)
      go_ret
      exact ⟨by rw [HC.out]; rfl, rfl⟩
theorem meth_time (v : Value) (w : World) : (method 241 32 v "loop.example/g00248/impl.time").run Try.prog w = .ok (94, v) w := by kernel_rfl

set_option maxHeartbeats 1000000 in
theorem byTime_any (a p k n : Int) (s : ByteArray) (ao : Option Addr) (len cap : Nat) (a' p' k' n' : Int) (s' : ByteArray) (ao' : Option Addr) (len' cap' : Nat) (w : World) :
    Calls Try.prog 43 #[sdV a p k n s ao len cap, sdV a' p' k' n' s' ao' len' cap'] w fun e w' => e = .returned (.int .i64 (cmpI a a')) ∧ Below w.heap.size w w' := by
  have q1 := meth_time
  go_enter Try.func43, Try.ntmps43
  go_wp2_with fail
  obtain ⟨W, hW⟩ : ∃ W, W = (w.alloc (.cells #[.int .i64 a, .int .i64 p, .int .i64 k, .int .i64 n, .string s, .slice ao len cap] 32)).alloc (.cells #[.int .i64 a', .int .i64 p', .int .i64 k', .int .i64 n', .string s', .slice ao' len' cap'] 32) := ⟨_, rfl⟩
  have HBW : Hid (Below w.heap.size w W) := by rw [hW]; exact ((Below.refl _ _).alloc (Nat.le_refl _) _).alloc (by simp) _
  have e1 : (w.alloc (.cells #[.int .i64 a, .int .i64 p, .int .i64 k, .int .i64 n, .string s, .slice ao len cap] 32)).heap.size = w.heap.size + 1 := by simp
  have q : ∀ x, W.cell? ⟨w.heap.size, x, none⟩ = (#[.int .i64 a, .int .i64 p, .int .i64 k, .int .i64 n, .string s, .slice ao len cap] : Array Value)[x]? := fun x => by rw [hW, World.cell?_alloc_lt (h := by simp), World.cell?_alloc_new]
  have q' : ∀ x, W.cell? ⟨w.heap.size + 1, x, none⟩ = (#[.int .i64 a', .int .i64 p', .int .i64 k', .int .i64 n', .string s', .slice ao' len' cap'] : Array Value)[x]? := fun x => by rw [hW, ← e1, World.cell?_alloc_new]
  have c0 := Inn.keep (q 0)
  have c1 := Inn.keep (q 1)
  have c2 := Inn.keep (q 2)
  have c3 := Inn.keep (q 3)
  have c4 := Inn.keep (q 4)
  have c5 := Inn.keep (q 5)
  have d0 := Inn.keep (q' 0)
  have d1 := Inn.keep (q' 1)
  have d2 := Inn.keep (q' 2)
  have d3 := Inn.keep (q' 3)
  have d4 := Inn.keep (q' 4)
  have d5 := Inn.keep (q' 5)
  rw [← hW]
  clear q q' e1 hW
  haveI := inn_ne W
  refine wp_region_inn ?_ ?_ ?_
  · kernel_rfl
  · kernel_rfl
  repeat (go_big_quiet_step (first
    | (go_at_call 94; exact calls_inn (time_any _ _ _ _ _ _ _ _ _))
    | (go_at_call 35; exact calls_inn_same (cmpInt_any _ _ _))))
  refine wpQuiet_nil ?_
  intro w7 h7
  have HB7 : Hid (Below w.heap.size w w7) := by
    obtain ⟨x7, h7⟩ := h7
    have : Below W.heap.size W w7 := by rw [h7]; exact x7.bel
    exact HBW.out.trans (this.mono HBW.out.size)
  clear h7 c0 c1 c2 c3 c4 c5 d0 d1 d2 d3 d4 d5
  go_wp2_with fail
  go_ret
  exact ⟨rfl, HB7.out⟩
end Go.Proofs.Ytimnnedmpmlmdaa.Tr
