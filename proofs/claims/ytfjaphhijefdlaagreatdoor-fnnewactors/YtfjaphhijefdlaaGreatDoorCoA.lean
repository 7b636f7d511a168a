/-
  The plain mathematics of an instruction: what each one names, when it is right by the specification's letters, when by the program's slots, and that both are one.
-/
import Derived.Test.YtfjaphhijefdlaaGreatDoorAtB
namespace Go.Proofs.YtfjaphhijefdlaaGreatDoor.Code
open Go.RowKit
open Go.Proofs.YtfjaphhijefdlaaGreatDoor.Atom

/-- An instruction. -/
structure I where
  op : Int
  a : Int
  b : Int
  c : Int
  n : Int
  s : ByteArray

/-- What the instructions of an Op name, by the program's slots. -/
def names : Nat → List Nat
  | 1 => [1, 5] | 2 => [1, 9] | 3 => [1, 2] | 4 => [1, 2, 6] | 5 => [1, 2, 3] | 6 => [1, 2, 7] | 7 => [1, 2] | 8 => [1, 2] | 9 => [1, 2, 3] | 10 => [1, 2, 8]
  | 11 => [1, 4, 8] | 12 => [8] | 13 => [1, 2] | 14 => [1] | 15 => [1] | 16 => [1, 2, 8] | 17 => [1] | 18 => [1] | 19 => [1] | 20 => [1] | _ => []
/-- What they name, by the specification's letters. -/
def uses : Nat → List UInt8
  | 1 => [65, 78] | 2 => [65, 83] | 3 => [65, 66] | 4 => [65, 66, 78] | 5 => [65, 66, 67] | 6 => [65, 66, 78] | 7 => [65, 66] | 8 => [65, 66] | 9 => [65, 66, 67] | 10 => [65, 66, 78]
  | 11 => [65, 66, 78] | 12 => [78] | 13 => [65, 66] | 14 => [65] | 15 => [65] | 16 => [65, 66, 78] | 17 => [65] | 18 => [65] | 19 => [65] | 20 => [65] | _ => []
def word : Nat → List UInt8
  | 1 => [105, 110, 116] | 2 => [97, 116, 111, 109] | 3 => [109, 111, 118, 101] | 4 => [116, 117, 112, 108, 101] | 5 => [99, 111, 110, 115] | 6 => [101, 108, 101, 109] | 7 => [104, 101, 97, 100]
  | 8 => [116, 97, 105, 108] | 9 => [97, 100, 100] | 10 => [115, 97, 109, 101] | 11 => [107, 105, 110, 100] | 12 => [106, 117, 109, 112] | 13 => [115, 101, 110, 100] | 14 => [116, 97, 107, 101]
  | 15 => [115, 101, 108, 102] | 16 => [109, 97, 107, 101] | 17 => [115, 97, 121] | 18 => [108, 105, 110, 107] | 19 => [101, 110, 100] | 20 => [110, 105, 108] | _ => []

/-- Is what stands at a slot right, in code of N instructions? -/
def right (x : I) (N : Int) : Nat → Bool
  | 1 => Atom.inB x.a 0 7
  | 2 => Atom.inB x.b 0 7
  | 3 => Atom.inB x.c 0 7
  | 4 => Atom.inB x.b 1 6
  | 5 => Atom.inB x.n (-1000000) 1000000
  | 6 => Atom.inB x.n 0 (min 8 (wrap64 (8 - x.b)))
  | 7 => Atom.inB x.n 0 7
  | 8 => Atom.inB x.n 0 (wrap64 (N - 1))
  | 9 => atomB x.s
  | _ => Atom.inB x.n 0 7
def blank (x : I) : Nat → I
  | 1 => { x with a := 0 }
  | 2 => { x with b := 0 }
  | 3 => { x with c := 0 }
  | 4 => { x with b := 0 }
  | 9 => { x with s := ByteArray.empty }
  | _ => { x with n := 0 }
def blanks (x : I) (l : List Nat) : I := l.foldl blank x
/-- Nothing but the Op is there. -/
def bare (x : I) : Bool := x.a == 0 && (x.b == 0 && (x.c == 0 && (x.n == 0 && x.s.data.toList.isEmpty)))

def implOk (x : I) (N : Int) : Bool := Atom.inB x.op 1 20 && (Atom.inB N 1 200 && ((names x.op.toNat).all (right x N) && bare (blanks x (names x.op.toNat))))

def letB (u : List UInt8) (ch : Int) : Bool := u.any fun b => (b.toNat : Int) == ch
def regB (u : List UInt8) (ch : Int) (r : Int) : Bool := if letB u ch then Atom.inB r 0 7 else r == 0
def numB (x : I) (N : Int) : Bool :=
  if x.op = 1 then Atom.inB x.n (-1000000) 1000000
  else if x.op = 4 then Atom.inB x.n 0 8 && decide (wrap64 (x.b + x.n) ≤ 8)
  else if x.op = 6 then Atom.inB x.n 0 7
  else if x.op = 10 ∨ x.op = 11 ∨ x.op = 12 ∨ x.op = 16 then decide (0 ≤ x.n ∧ x.n < N)
  else x.n == 0
def specOk (x : I) (N : Int) : Bool :=
  Atom.inB N 1 200 && (Atom.inB x.op 1 20 && (regB (uses x.op.toNat) 65 x.a && (regB (uses x.op.toNat) 67 x.c && ((if x.op = 11 then Atom.inB x.b 1 6 else regB (uses x.op.toNat) 66 x.b) &&
    ((if x.op = 2 then atomB x.s else x.s.data.toList.isEmpty) && numB x N)))))

theorem op_cases {o : Int} (h : Atom.inB o 1 20 = true) : o = 1 ∨ o = 2 ∨ o = 3 ∨ o = 4 ∨ o = 5 ∨ o = 6 ∨ o = 7 ∨ o = 8 ∨ o = 9 ∨ o = 10 ∨ o = 11 ∨ o = 12 ∨ o = 13 ∨ o = 14 ∨ o = 15 ∨ o = 16 ∨ o = 17 ∨ o = 18 ∨ o = 19 ∨ o = 20 := by
  unfold Atom.inB at h
  have := of_decide_eq_true h
  omega

theorem implOk_eq (x : I) (N : Int) : implOk x N = specOk x N := by
  obtain ⟨op, a, b, c, n, s⟩ := x
  rw [Bool.eq_iff_iff]
  unfold implOk specOk
  by_cases ho : Atom.inB op 1 20 = true
  · by_cases hN : Atom.inB N 1 200 = true
    · have hN' : 1 ≤ N ∧ N ≤ 200 := of_decide_eq_true hN
      rcases op_cases ho with rfl | rfl | rfl | rfl | rfl | rfl | rfl | rfl | rfl | rfl | rfl | rfl | rfl | rfl | rfl | rfl | rfl | rfl | rfl | rfl <;>
      · simp [names, uses, right, blanks, blank, bare, regB, letB, numB, Atom.inB, wrap64]
        intro _ _
        generalize (s.data = #[]) = P
        generalize (atomB s = true) = Q
        by_cases hP : P <;> by_cases hQ : Q <;> simp [hP, hQ] <;> omega
    · simp only [Bool.not_eq_true] at hN
      simp [hN]
  · simp only [Bool.not_eq_true] at ho
    simp [ho]
end Go.Proofs.YtfjaphhijefdlaaGreatDoor.Code
