/- Is a value right? As a plain function of values: within so many levels more, so many counted already. -/
import Derived.Test.YthfnlnhehececaaDoorNUtf
namespace Go.Proofs.YthfnlnhehececaaDoor
namespace Js
/-- Names that may be. -/
def nm (ns : List (List UInt8)) (m : Nat) : Bool := decide (ns.length = m) && ns.all utf
/-- One behind another. -/
def rts (f : J → Nat → Bool × Nat) : List J → Nat → Bool × Nat
  | [], n => (true, n)
  | j :: r, n => if (f j n).1 then rts f r (f j n).2 else (false, (f j n).2)
/-- What is in a list or an object, where there may be any. -/
def rkids (f : Option (J → Nat → Bool × Nat)) (ks : List J) (n : Nat) : Bool × Nat :=
  match f with
  | none => (false, n)
  | some g => rts g ks n
def rstep (f : Option (J → Nat → Bool × Nat)) (j : J) (n0 : Nat) : Bool × Nat :=
  match j with
  | .mk k t ns ks =>
    if 8000 < n0 + 1 then (false, n0 + 1)
    else if k = 1 ∨ k = 2 ∨ k = 3 then (t.isEmpty && ns.isEmpty && ks.isEmpty, n0 + 1)
    else if k = 4 then (ns.isEmpty && ks.isEmpty, n0 + 1)
    else if k = 5 then (ns.isEmpty && ks.isEmpty && utf t, n0 + 1)
    else if k = 6 then if t.isEmpty && ns.isEmpty then rkids f ks (n0 + 1) else (false, n0 + 1)
    else if k = 7 then if t.isEmpty && nm ns ks.length then rkids f ks (n0 + 1) else (false, n0 + 1)
    else (false, n0 + 1)
def rt : Nat → J → Nat → Bool × Nat
  | 0 => rstep none
  | d + 1 => rstep (some (rt d))
/-- Is it right? -/
def right (j : J) : Bool := (rt 20 j 0).1
theorem rts_le (f : J → Nat → Bool × Nat) (hf : ∀ j n, (f j n).1 = true → (f j n).2 ≤ 8000) : ∀ ks n, n ≤ 8000 → (rts f ks n).1 = true → (rts f ks n).2 ≤ 8000
  | [], n, hn, _ => hn
  | j :: r, n, hn, h => by
    rw [rts] at h ⊢
    by_cases hj : (f j n).1 = true
    · rw [if_pos hj] at h ⊢
      exact rts_le f hf r _ (hf j n hj) h
    · rw [if_neg hj] at h; cases h
theorem rstep_le (f : Option (J → Nat → Bool × Nat)) (hf : ∀ g, f = some g → ∀ j n, (g j n).1 = true → (g j n).2 ≤ 8000) (j : J) (n : Nat) (h : (rstep f j n).1 = true) : (rstep f j n).2 ≤ 8000 := by
  obtain ⟨k, t, ns, ks⟩ := j
  have kids : n + 1 ≤ 8000 → (rkids f ks (n + 1)).1 = true → (rkids f ks (n + 1)).2 ≤ 8000 := by
    intro h1 h2
    cases f with
    | none => cases h2
    | some g => exact rts_le g (hf g rfl) ks _ h1 h2
  unfold rstep at h ⊢
  dsimp only at h ⊢
  by_cases h0 : 8000 < n + 1
  · rw [if_pos h0] at h; cases h
  rw [if_neg h0] at h ⊢
  by_cases h1 : k = 1 ∨ k = 2 ∨ k = 3
  · rw [if_pos h1]; exact Nat.le_of_not_lt h0
  rw [if_neg h1] at h ⊢
  by_cases h4 : k = 4
  · rw [if_pos h4]; exact Nat.le_of_not_lt h0
  rw [if_neg h4] at h ⊢
  by_cases h5 : k = 5
  · rw [if_pos h5]; exact Nat.le_of_not_lt h0
  rw [if_neg h5] at h ⊢
  by_cases h6 : k = 6
  · rw [if_pos h6] at h ⊢
    by_cases hh : (t.isEmpty && ns.isEmpty) = true
    · rw [if_pos hh] at h ⊢; exact kids (Nat.le_of_not_lt h0) h
    · rw [if_neg hh] at h; cases h
  rw [if_neg h6] at h ⊢
  by_cases h7 : k = 7
  · rw [if_pos h7] at h ⊢
    by_cases hh : (t.isEmpty && nm ns ks.length) = true
    · rw [if_pos hh] at h ⊢; exact kids (Nat.le_of_not_lt h0) h
    · rw [if_neg hh] at h; cases h
  rw [if_neg h7] at h; cases h
theorem rt_le : ∀ (d : Nat) (j : J) (n : Nat), (rt d j n).1 = true → (rt d j n).2 ≤ 8000
  | 0, j, n => rstep_le none (fun g h => by cases h) j n
  | d + 1, j, n => rstep_le (some (rt d)) (fun g h => by cases h; exact rt_le d) j n
/-- Nothing of it is too long for a machine. -/
inductive Fit : J → Prop
  | mk (k : Int) (t : List UInt8) (ns : List (List UInt8)) (ks : List J) (ht : t.length ≤ 140737488355328) (hn : ns.length ≤ 140737488355328) (hns : ∀ x ∈ ns, x.length ≤ 140737488355328) (hk : ks.length ≤ 140737488355328) (hks : ∀ j ∈ ks, Fit j) : Fit (.mk k t ns ks)
end Js
end Go.Proofs.YthfnlnhehececaaDoor
