/- Texts that a slice shows; the first of some numbers. -/
import Derived.Test.YteanbflbclmeeaaGreatMChC
namespace Go.Proofs.YteanbflbclmeeaaGreat
open Go.RowKit

theorem first_of {p : Nat → Prop} (k : Nat) (hk : p k) : ∃ m, m ≤ k ∧ p m ∧ ∀ j, j < m → ¬ p j := by
  induction k using Nat.strongRecOn with
  | ind k ih =>
    by_cases h : ∃ j, j < k ∧ p j
    · obtain ⟨j, hj, hp⟩ := h
      obtain ⟨m, hm, h1, h2⟩ := ih j hj hp
      exact ⟨m, by omega, h1, h2⟩
    · exact ⟨k, Nat.le_refl _, hk, fun j hj hp => h ⟨j, hj, hp⟩⟩
/-- Texts that a slice shows. -/
def TX (s0 : Option Addr) (n : Nat) (f : Nat → ByteArray) (w : World) : Prop := 0 < n → ∃ b o, s0 = some ⟨b, o, none⟩ ∧ b < w.heap.size ∧ Texts b o n f w
theorem TX.below {s0 : Option Addr} {n : Nat} {f : Nat → ByteArray} {w w' : World} (h : TX s0 n f w) (hb : Below w.heap.size w w') : TX s0 n f w' := fun h0 => by
  obtain ⟨b, o, rfl, hl, ht⟩ := h h0
  exact ⟨b, o, rfl, Nat.lt_of_lt_of_le hl hb.size, ht.keep (hb.block b hl)⟩
end Go.Proofs.YteanbflbclmeeaaGreat
