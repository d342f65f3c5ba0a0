/- What the document's own sums make of a block, told by the plain functions: a word of four bytes at once, the schedule word by word. No program is imported here. -/
import Derived.Test.YtdimkgidaioolaaSpec
import Derived.Test.YtdimkgidaioolaaWord
namespace Dig

def be4 (a b c d : UInt8) : UInt32 := UInt32.ofNat (a.toNat * 2 ^ 24) ||| UInt32.ofNat (b.toNat * 2 ^ 16) ||| UInt32.ofNat (c.toNat * 2 ^ 8) ||| UInt32.ofNat d.toNat
def le4 (a b c d : UInt8) : UInt32 := UInt32.ofNat a.toNat ||| UInt32.ofNat (b.toNat * 2 ^ 8) ||| UInt32.ofNat (c.toNat * 2 ^ 16) ||| UInt32.ofNat (d.toNat * 2 ^ 24)
theorem be4_eq (a b c d : UInt8) : be4 a b c d = UInt32.ofNat (a.toNat * 2 ^ 24) ||| UInt32.ofNat (b.toNat * 2 ^ 16) ||| UInt32.ofNat (c.toNat * 2 ^ 8) ||| UInt32.ofNat d.toNat := rfl
theorem le4_eq (a b c d : UInt8) : le4 a b c d = UInt32.ofNat a.toNat ||| UInt32.ofNat (b.toNat * 2 ^ 8) ||| UInt32.ofNat (c.toNat * 2 ^ 16) ||| UInt32.ofNat (d.toNat * 2 ^ 24) := rfl
def word4 (low : Bool) (bs : List UInt8) (m : Nat) : UInt32 :=
  if low then le4 (bs.getD (4 * m) 0) (bs.getD (4 * m + 1) 0) (bs.getD (4 * m + 2) 0) (bs.getD (4 * m + 3) 0) else be4 (bs.getD (4 * m) 0) (bs.getD (4 * m + 1) 0) (bs.getD (4 * m + 2) 0) (bs.getD (4 * m + 3) 0)
theorem getD_set_other {l : List UInt32} {i j : Nat} {v : UInt32} (h : i ≠ j) : (l.set i v).getD j 0 = l.getD j 0 := by
  simp [List.getD, List.getElem?_set_ne h]
theorem getD_set_same {l : List UInt32} {i : Nat} {v : UInt32} (h : i < l.length) : (l.set i v).getD i 0 = v := by
  simp [List.getD, h]
theorem wordsTo_four (low : Bool) (bs : List UInt8) (m : Nat) (hm : m < 16) : wordsTo low bs (4 * (m + 1)) = (wordsTo low bs (4 * m)).set m ((wordsTo low bs (4 * m)).getD m 0 ||| UInt32.ofNat ((bs.getD (4 * m) 0).toNat * 2 ^ (8 * place low 0)) ||| UInt32.ofNat ((bs.getD (4 * m + 1) 0).toNat * 2 ^ (8 * place low 1)) ||| UInt32.ofNat ((bs.getD (4 * m + 2) 0).toNat * 2 ^ (8 * place low 2)) ||| UInt32.ofNat ((bs.getD (4 * m + 3) 0).toNat * 2 ^ (8 * place low 3))) := by
  have hl := length_wordsTo low bs (4 * m)
  have p : ∀ r, r < 4 → place low (4 * m + r) = place low r := by intro r hr; unfold place; rw [show (4 * m + r) % 4 = r % 4 from by omega]
  rw [show 4 * (m + 1) = 4 * m + 1 + 1 + 1 + 1 from by omega, wordsTo_succ, wordsTo_succ, wordsTo_succ, wordsTo_succ]
  simp only [wstep]
  rw [show (4 * m) / 4 = m from by omega, show (4 * m + 1) / 4 = m from by omega, show (4 * m + 1 + 1) / 4 = m from by omega, show (4 * m + 1 + 1 + 1) / 4 = m from by omega]
  simp only [List.set_set]
  rw [getD_set_same (by omega), getD_set_same (by omega), getD_set_same (by omega)]
  rw [show place low (4 * m) = place low 0 from p 0 (by omega), p 1 (by omega), show 4 * m + 1 + 1 = 4 * m + 2 from rfl, p 2 (by omega), show 4 * m + 2 + 1 = 4 * m + 3 from rfl, p 3 (by omega)]
theorem wordsTo_get (low : Bool) (bs : List UInt8) : ∀ m, m ≤ 16 → ∀ j, j < 16 → (wordsTo low bs (4 * m)).getD j 0 = if j < m then word4 low bs j else 0 := by
  intro m
  induction m with
  | zero => intro _ j hj; rw [Nat.mul_zero, wordsTo_zero, if_neg (by omega)]; exact (by decide : ∀ j, j < 16 → (List.replicate 16 (0 : UInt32)).getD j 0 = 0) j hj
  | succ m ih =>
    intro hm j hj
    rw [wordsTo_four low bs m (by omega)]
    by_cases h : m = j
    · subst h
      rw [getD_set_same (by rw [length_wordsTo]; omega), ih (by omega) m hj, if_neg (by omega), if_pos (by omega)]
      unfold word4
      cases low
      · simp only [place, Bool.false_eq_true, if_false, UInt32.zero_or, be4_eq]; simp
      · simp only [place, if_true, UInt32.zero_or, le4_eq]; simp
    · rw [getD_set_other h, ih (by omega) j hj]
      by_cases h2 : j < m
      · rw [if_pos h2, if_pos (by omega)]
      · rw [if_neg h2, if_neg (by omega)]
theorem words_get (low : Bool) (bs : List UInt8) (j : Nat) (hj : j < 16) : (words low bs).getD j 0 = word4 low bs j := by
  have := wordsTo_get low bs 16 (by omega) j hj
  rw [if_pos hj, show 4 * 16 = 64 from rfl, words_eq] at this
  exact this
/-- The schedule as it is filled: the words of the block, then the others. -/
def schTo (bs : List UInt8) (i : Nat) : List UInt32 := if i < 16 then (words false bs).take i ++ List.replicate (64 - i) 0 else spreadTo bs (i - 16)
theorem schTo_zero (bs : List UInt8) : schTo bs 0 = List.replicate 64 0 := by simp [schTo]
theorem schTo_low (bs : List UInt8) (i : Nat) (hi : i < 16) : schTo bs (i + 1) = (schTo bs i).set i (word4 false bs i) := by
  have hl := length_words false bs
  have e : (words false bs).take (i + 1) = (words false bs).take i ++ [word4 false bs i] := by
    rw [List.take_succ_eq_append_getElem (by omega), ← words_get false bs i hi]
    simp [List.getD, show i < (words false bs).length by omega]
  have h : (schTo bs i).set i (word4 false bs i) = (words false bs).take (i + 1) ++ List.replicate (64 - (i + 1)) 0 := by
    rw [schTo, if_pos hi, show List.replicate (64 - i) (0 : UInt32) = 0 :: List.replicate (64 - (i + 1)) 0 from by rw [show 64 - i = (64 - (i + 1)) + 1 from by omega, List.replicate_succ], List.set_append_right _ _ (by rw [List.length_take]; omega)]
    rw [List.length_take, show i - min i (words false bs).length = 0 from by omega, List.set_cons_zero, e, List.append_assoc]; rfl
  rw [h]
  by_cases h16 : i + 1 < 16
  · rw [schTo, if_pos h16]
  · obtain rfl : i = 15 := by omega
    rw [schTo, if_neg (by omega), spreadTo_zero, List.take_of_length_le (by omega)]
theorem schTo_high (bs : List UInt8) (i : Nat) (hi : 16 ≤ i) : schTo bs (i + 1) = spreadStep (schTo bs i) (i - 16) := by
  rw [schTo, if_neg (by omega), schTo, if_neg (by omega), show i + 1 - 16 = (i - 16) + 1 from by omega, spreadTo_succ]
theorem schTo_all (bs : List UInt8) : schTo bs 64 = spread bs := by rw [schTo, if_neg (by omega)]; exact spread_eq bs
theorem length_schTo (bs : List UInt8) (i : Nat) (hi : i ≤ 64) : (schTo bs i).length = 64 := by
  rw [schTo]; split
  · rw [List.length_append, List.length_take, length_words, List.length_replicate]; omega
  · exact length_spreadTo bs _
/-- What the first blocks of a text have made, and one more. -/
theorem fold_take {S : Type} (turn : S → List UInt8 → S) (s : S) (P : List UInt8) (j : Nat) (h : 64 * (j + 1) ≤ P.length) : fold turn s (P.take (64 * (j + 1))) = turn (fold turn s (P.take (64 * j))) ((P.drop (64 * j)).take 64) := by
  have e : P.take (64 * (j + 1)) = P.take (64 * j) ++ (P.drop (64 * j)).take 64 := by rw [show 64 * (j + 1) = 64 * j + 64 from by omega, List.take_add]
  rw [e, fold_snoc turn s _ _ (by rw [List.length_take]; omega) (by rw [List.length_take, List.length_drop]; omega)]
attribute [irreducible] be4 le4 word4 schTo
end Dig
