/- The walk of the statement DiskTurns. -/
import Derived.Test.YtkpnllaegkdkkaaDRot
import Derived.Test.YtkpnllaegkdkkaaDKnown
namespace Go.Proofs.Ytkpnllaegkdkkaa
open Go.RowKit

/-- Which of n things a number speaks of. -/
def pickN (c : Int) (n : Nat) : Nat := ((if c < 0 then -(c + 1) else c) % n).toNat
theorem pickN_lt (c : Int) (n : Nat) (hn : 0 < n) : pickN c n < n := by
  unfold pickN
  have h1 := Int.emod_lt_of_pos (if c < 0 then -(c + 1) else c) (show (0 : Int) < n by omega)
  have h2 := Int.emod_nonneg (if c < 0 then -(c + 1) else c) (show (n : Int) ≠ 0 by omega)
  omega
theorem pick_any (c : Int) (n : Nat) (hn : 0 < n) (hn1 : n ≤ 1000000) (h1 : -9223372036854775808 ≤ c) (h2 : c ≤ 9223372036854775807) (w : World) :
    Calls Try.prog 6 #[.int .i64 c, .int .i64 n] w fun e w' => e = .returned (.int .i64 (pickN c n)) ∧ w = w' := by
  have hm : ∀ x : Int, 0 ≤ x → x = (if c < 0 then -(c + 1) else c) → x % (n : Int) = (pickN c n : Nat) := by
    intro x hx e
    unfold pickN
    rw [← e]
    have := Int.emod_nonneg x (show (n : Int) ≠ 0 by omega)
    omega
  have HM := Lib.hid hm
  clear hm
  by_cases hc : c < 0
  · have h0 : 0 ≤ -(c + 1) := by omega
    go_enter Try.func6, Try.ntmps6
    go_wp2
    go_ret
    refine ⟨ret_int ?_, rfl⟩
    rw [← Int.neg_tmod, Int.tmod_eq_emod_of_nonneg h0]
    exact HM.out _ h0 (by rw [if_pos hc])
  · have hc' : 0 ≤ c := by omega
    clear hc
    go_enter Try.func6, Try.ntmps6
    go_wp2
    go_ret
    refine ⟨ret_int (HM.out _ ?_ ?_), rfl⟩
    · omega
    · rw [if_neg (by omega)]

/-! What the image's turning comes to, plainly. -/
theorem getD_in {α : Type} {l : List α} {i : Nat} {x : α} (h : i < l.length) : l.getD i x = l[i] := by rw [List.getD, List.getElem?_eq_getElem h]; rfl
theorem getD_set_same {α : Type} {l : List α} {i : Nat} {x v : α} (h : i < l.length) : (l.set i v).getD i x = v := by rw [List.getD, List.getElem?_set_self h]; rfl
theorem getD_set_other {α : Type} {l : List α} {i j : Nat} {x v : α} (h : i ≠ j) : (l.set i v).getD j x = l.getD j x := by rw [List.getD, List.getElem?_set_ne h, ← List.getD]
theorem set_getD {α : Type} {l : List α} {i : Nat} {x : α} (h : i < l.length) : l.set i (l.getD i x) = l := by rw [getD_in h]; exact List.set_getElem_self _
theorem getD_mid' {α : Type} {A B C : List α} {o i : Nat} {x : α} (hA : A.length = o) (hi : i < B.length) : (A ++ (B ++ C)).getD (o + i) x = B.getD i x := by
  rw [List.getD, List.getElem?_append_right (by omega), List.getElem?_append_left (by omega), show o + i - A.length = i from by omega, ← List.getD]
theorem set_mid' {α : Type} {A B C : List α} {o i : Nat} {v : α} (hA : A.length = o) (hi : i < B.length) : (A ++ (B ++ C)).set (o + i) v = A ++ (B.set i v ++ C) := by
  rw [List.set_append_right _ _ (by omega), show o + i - A.length = i from by omega, List.set_append_left _ _ hi]
theorem sect_len {S : List (List UInt8)} {a : Nat} (hw : ∀ s ∈ S, s.length = 64) (ha : a < S.length) : (S.getD a []).length = 64 := by rw [getD_in ha]; exact hw _ (List.getElem_mem _)
theorem flat_rot {S : List (List UInt8)} {a bit : Nat} (hw : ∀ s ∈ S, s.length = 64) (ha : a < S.length) (hb : bit < 512) :
    (rotS S a bit).flatten = S.flatten.set (a * 64 + bit / 8) (turnBit (S.flatten.getD (a * 64 + bit / 8) 0) (bit % 8)) := by
  obtain ⟨A, C, h1, h2, h3⟩ := flat_split hw ha
  have hl := sect_len hw ha
  rw [rotS, h3, h2, getD_mid' h1 (by omega), set_mid' h1 (by omega)]
theorem turn_twice (x : UInt8) (k : Nat) : turnBit (turnBit x k) k = x := by unfold turnBit; rw [UInt8.xor_assoc, UInt8.xor_self, UInt8.xor_zero]
theorem rot_twice {S : List (List UInt8)} {a bit : Nat} (hw : ∀ s ∈ S, s.length = 64) (ha : a < S.length) (hb : bit < 512) : rotS (rotS S a bit) a bit = S := by
  have hl := sect_len hw ha
  have e1 : (rotS S a bit).getD a [] = (S.getD a []).set (bit / 8) (turnBit ((S.getD a []).getD (bit / 8) 0) (bit % 8)) := getD_set_same ha
  have e2 : rotS (rotS S a bit) a bit = (rotS S a bit).set a (((rotS S a bit).getD a []).set (bit / 8) (turnBit (((rotS S a bit).getD a []).getD (bit / 8) 0) (bit % 8))) := rfl
  rw [e2, e1, getD_set_same (by omega), turn_twice, List.set_set, set_getD (by omega), rotS, List.set_set, set_getD ha]
theorem turn_xor (x : UInt8) (k : Nat) : x ^^^ turnBit x k = UInt8.ofNat (2 ^ k) := by unfold turnBit; rw [← UInt8.xor_assoc, UInt8.xor_self, UInt8.zero_xor]
/-- What the two images have at a place. -/
theorem turned_at {S : List (List UInt8)} {a bit : Nat} (hw : ∀ s ∈ S, s.length = 64) (ha : a < S.length) (hb : bit < 512) (i : Nat) (hi : i < S.flatten.length) :
    S.flatten.getD i 0 ^^^ (rotS S a bit).flatten.getD i 0 = if i = a * 64 + bit / 8 then UInt8.ofNat (2 ^ (bit % 8)) else 0 := by
  rw [flat_rot hw ha hb]
  by_cases e : i = a * 64 + bit / 8
  · rw [if_pos e, ← e, getD_set_same hi]
    exact turn_xor _ _
  · rw [if_neg e, getD_set_other (fun h => e h.symm), UInt8.xor_self]
end Go.Proofs.Ytkpnllaegkdkkaa
