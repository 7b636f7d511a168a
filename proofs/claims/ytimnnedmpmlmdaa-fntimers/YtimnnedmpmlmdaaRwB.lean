/-
  Rows of anything: one of a row is turned; how marks are counted; a row that is begun.
-/
import Derived.Test.YtimnnedmpmlmdaaRwA
import Derived.Test.YtimnnedmpmlmdaaMkD
namespace Go.Proofs.Ytimnnedmpmlmdaa
open Go.RowKit
set_option linter.unusedVariables false

variable {α : Type} {e : Elt α}
/-- One of a row is turned, and what it leads to; all others stay. -/
theorem GR.turn {w w' : World} {A B : List α} {t' : α} {ba bt bb : List Nat} {g f off : Nat} (ho : off = f + A.length * e.s) (hA : GR e w A ba g f) (hB : GR e w B bb g (off + e.s)) (hnd : (g :: (ba ++ (bt ++ bb))).Nodup) (hlt : ∀ x ∈ ba ++ (bt ++ bb), x < w.heap.size) (hout : OutB (g :: bt) w w')
    (hc : ∀ o v, (o < off ∨ off + e.s ≤ o) → w.cell? ⟨g, o, none⟩ = some v → w'.cell? ⟨g, o, none⟩ = some v) (hE : e.E w' t' bt g off) : GR e w' (A ++ t' :: B) (ba ++ (bt ++ bb)) g f := by
  subst ho
  obtain ⟨n1, n2⟩ := List.nodup_cons.1 hnd
  have d1 := List.nodup_append.1 n2
  have d2 := List.nodup_append.1 d1.2.1
  have hg : ∀ x ∈ ba ++ (bt ++ bb), x ≠ g := fun x hx q => n1 (by rw [← q]; exact hx)
  refine GR.join (GR.keep A ba g f (fun x hx _ => hout.block x (hlt x (by simp [hx])) (fun hm => ?_)) (fun o v _ ho hv => hc o v (.inl (by rw [Nat.mul_comm] at ho; omega)) hv) hA) hE (GR.keep B bb g _ (fun x hx _ => hout.block x (hlt x (by simp [hx])) (fun hm => ?_)) (fun o v ho _ hv => hc o v (.inr ho) hv) hB)
  · rcases List.mem_cons.1 hm with rfl | hm
    · exact hg x (by simp [hx]) rfl
    · exact d1.2.2 x hx x (by simp [hm]) rfl
  · rcases List.mem_cons.1 hm with rfl | hm
    · exact hg x (by simp [hx]) rfl
    · exact d2.2.2 x hm x hx rfl
def cG (c : α → Nat) : List α → Nat
  | [] => 0
  | t :: r => c t + cG c r
def mrG (m : α → Nat → α) (c : α → Nat) : List α → Nat → List α
  | [], _ => []
  | t :: r, K => m t K :: mrG m c r (K + c t)
variable {m : α → Nat → α} {c : α → Nat}
theorem mrG_len : ∀ (l : List α) (K : Nat), (mrG m c l K).length = l.length
  | [], K => by rw [mrG]
  | t :: r, K => by rw [mrG, List.length_cons, List.length_cons, mrG_len r]
theorem cG_take (l : List α) (i : Nat) (h : i < l.length) : cG c (l.take (i + 1)) = cG c (l.take i) + c l[i] := by
  induction l generalizing i with
  | nil => simp at h
  | cons t r ih =>
    cases i with
    | zero => simp [cG]
    | succ j =>
      have := ih j (by simpa using h)
      rw [List.take_succ_cons, List.take_succ_cons, cG, cG, this]
      simp only [List.getElem_cons_succ]
      omega
theorem mrG_take (l : List α) (i K : Nat) (h : i < l.length) : mrG m c (l.take (i + 1)) K = mrG m c (l.take i) K ++ [m l[i] (K + cG c (l.take i))] := by
  induction l generalizing i K with
  | nil => simp at h
  | cons t r ih =>
    cases i with
    | zero => simp [mrG, cG]
    | succ j =>
      have := ih j (K + c t) (by simpa using h)
      rw [List.take_succ_cons, List.take_succ_cons, mrG, mrG, this, cG]
      simp only [List.getElem_cons_succ, List.cons_append]
      rw [Nat.add_assoc]
theorem cG_le (l : List α) (i : Nat) : cG c (l.take i) ≤ cG c l := by
  induction l generalizing i with
  | nil => simp [cG]
  | cons t r ih =>
    cases i with
    | zero => simp [cG]
    | succ j => rw [List.take_succ_cons, cG, cG]; have := ih j; omega
theorem mrG_get : ∀ (l : List α) (K i : Nat) (h : i < (mrG m c l K).length) (h' : i < l.length), (mrG m c l K)[i] = m l[i] (K + cG c (l.take i))
  | [], K, i, h, h' => absurd h' (by simp)
  | t :: r, K, i, h, h' => by
    cases i with
    | zero => simp [mrG, cG]
    | succ j =>
      have hj : j < r.length := by simpa using h'
      have := mrG_get r (K + c t) j (by rw [mrG_len]; exact hj) hj
      simp only [mrG, List.getElem_cons_succ, this, List.take_succ_cons, cG]
      rw [Nat.add_assoc]
theorem madeG_start {α : Type} {e : Elt α} (w : World) (l : List α) (z : Array Value) (hz : z.size = l.length * e.s) (t : TypeId) : MadeG e w (w.alloc (.cells z t)) w.heap.size l 0 [] where
  below := (Below.refl _ _).alloc (Nat.le_refl _) _
  lt := by show w.heap.size < (w.heap.push _).size; simp
  some := fun j hj => by
    rw [World.cell?_alloc_new]
    have : j < z.size := by rw [hz]; exact hj
    simp [this]
  free := fun o => by simp
  row := by simp [GR]
  nd := by simp
  lo := fun b hb => by cases hb
theorem cellOut {bs : List Nat} {w w' : World} (h : OutB bs w w') {b o : Nat} {v : Value} (hn : b ∉ bs) (hc : w.cell? ⟨b, o, none⟩ = some v) : w'.cell? ⟨b, o, none⟩ = some v := by
  rw [World.cell?_of_block (w := w) (h.block b (World.block_lt_of_cell? w _ hc) hn)]; exact hc
end Go.Proofs.Ytimnnedmpmlmdaa
