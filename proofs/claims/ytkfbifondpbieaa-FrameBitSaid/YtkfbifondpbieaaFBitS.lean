/- A record in which a byte is another one. -/
import Derived.Test.YtkfbifondpbieaaFLaw2
namespace Go.Proofs.Ytkfbifondpbieaa
open Go.RowKit

def flip (c : UInt8) (d : Nat) : UInt8 := UInt8.ofNat (c.toNat ^^^ 2 ^ d)
theorem flip_nat (c : UInt8) {d : Nat} (h : d < 8) : (flip c d).toNat = c.toNat ^^^ 2 ^ d := by
  have hc : c.toNat < 2 ^ 8 := c.toNat_lt
  have hd : 2 ^ d < 2 ^ 8 := Nat.pow_lt_pow_right (by decide) h
  rw [flip, UInt8.toNat_ofNat', Nat.mod_eq_of_lt (Nat.xor_lt_two_pow hc hd)]
theorem flip_ne (c : UInt8) {d : Nat} (h : d < 8) : flip c d ≠ c := by
  intro e
  have := flip_nat c h
  rw [e] at this
  have h2 : c.toNat ^^^ c.toNat = c.toNat ^^^ (c.toNat ^^^ 2 ^ d) := by rw [← this]
  rw [Nat.xor_self, ← Nat.xor_assoc, Nat.xor_self, Nat.zero_xor] at h2
  have := Nat.two_pow_pos d
  omega
/-- A part of a text in which one byte is another one. -/
theorem part_out {l : List UInt8} {c : UInt8} {i a b : Nat} (h : i < a ∨ b ≤ i) : ((l.set i c).take b).drop a = (l.take b).drop a := by
  rw [List.take_set]
  rcases h with h | h
  · rw [List.drop_set, if_pos h]
  · rw [List.set_eq_of_length_le (by rw [List.length_take]; omega)]
theorem part_in {l : List UInt8} {c : UInt8} {i a b : Nat} (h : a ≤ i) : ((l.set i c).take b).drop a = ((l.take b).drop a).set (i - a) c := by
  rw [List.take_set, List.drop_set, if_neg (by omega)]
theorem set_ne {l : List UInt8} {c : UInt8} {j : Nat} (hj : j < l.length) (h : c ≠ l.getD j 0) : l.set j c ≠ l := by
  intro e
  apply h
  have : (l.set j c)[j]? = some c := List.getElem?_set_self hj
  rw [e] at this
  rw [List.getD, this]; rfl
theorem part_get {l : List UInt8} {i a b : Nat} (h : a ≤ i) (hb : i < b) : ((l.take b).drop a).getD (i - a) 0 = l.getD i 0 := by
  rw [List.getD, List.getD, List.getElem?_drop, List.getElem?_take, show a + (i - a) = i by omega, if_pos hb]
theorem sumOf_set {h p : List UInt8} {c : UInt8} {j : Nat} (hj : j < p.length) (hc : c ≠ p.getD j 0) : Fr.sumOf h (p.set j c) ≠ Fr.sumOf h p := by
  intro e
  apply hc
  rw [List.set_eq_take_append_cons_drop, if_pos hj] at e
  have hp : p = p.take j ++ p[j] :: p.drop (j + 1) := by
    rw [List.getElem_cons_drop, List.take_append_drop]
  conv at e => rhs; rw [hp]
  rw [Fr.sumOf_byte e, List.getD, List.getElem?_eq_getElem hj]; rfl
/-- A record with a byte that is another one is none: whichever but those of the length, and those that are not looked at. -/
theorem Unpack_flip (s q : ByteArray) (e n : Nat) (p : List UInt8) (he : e ≤ 4611686018427387904) (hn : n ≤ 4294967295) (h : IsRec s e n p) (i : Nat) (c : UInt8) (hq : q.data.toList = s.data.toList.set i c) (hc : c ≠ s.data.toList.getD i 0)
    (hi : i = 0 ∨ 8 ≤ i) (hi2 : i < 24 + p.length) (w : World) :
    Calls Try.prog 22 #[.string q, .int .i64 e, .int .i64 n] w (Refused 20 0 (fun v => .tuple #[.string ⟨#[]⟩, .int .i64 0, v]) w) := by
  have hsz : q.size = s.size := by rw [← size_toList, hq, List.length_set, size_toList]
  have hs := h.looks.size
  have hw := h.whole
  have hwg := Fr.whole_ge p.length
  have ext : ∀ a b, (q.extract a b).data.toList = ((s.data.toList.set i c).take b).drop a := fun a b => by rw [extract_list, hq]
  have exs : ∀ a b, (s.extract a b).data.toList = (s.data.toList.take b).drop a := fun a b => extract_list s a b
  by_cases h0 : i = 0
  · subst h0
    refine Unpack_mark q e n (by omega) ?_ w
    have h1 := h.looks.mark
    rw [strAt_eq] at h1 ⊢
    rw [hq, List.getD, List.getElem?_set_self (by rw [size_toList]; omega)]
    rw [h1] at hc
    exact hc
  have h8 : 8 ≤ i := by omega
  have hlook : Looks q p.length := by
    refine ⟨by omega, by have := h.looks.most; omega, ?_, ?_, h.looks.few⟩
    · have h1 := h.looks.mark
      rw [strAt_eq] at h1 ⊢
      rw [hq, List.getD, List.getElem?_set_ne (by omega)]
      exact h1
    · rw [hq, part_out (Or.inr h8)]; exact h.looks.num
  by_cases h20 : i < 20
  · refine Unpack_head q e n p.length he hn hlook ?_ w
    rw [ext, part_in (by omega), ← exs, h.head]
    refine set_ne (by rw [Fr.length_headOf]; omega) ?_
    rw [← h.head, exs, part_get (by omega) h20]
    exact hc
  have hhead : (q.extract 4 20).data.toList = Fr.headOf e n p.length := by rw [ext, part_out (Or.inr (by omega)), ← exs, h.head]
  by_cases h24 : i < 24
  · refine Unpack_sum q e n p.length p he hn hlook hhead (by omega) ?_ ?_ w
    · rw [ext, part_out (Or.inl h24), ← exs, h.text]
    · rw [ext, part_in (by omega), ← exs, h.sum]
      refine set_ne (by rw [Fr.length_sumOf]; omega) ?_
      rw [← h.sum, exs, part_get (by omega) h24]
      exact hc
  · refine Unpack_sum q e n p.length (p.set (i - 24) c) he hn hlook hhead (by omega) ?_ ?_ w
    · rw [ext, part_in (by omega), ← exs, h.text]
    · rw [ext, part_out (Or.inr (by omega)), ← exs, h.sum]
      refine (sumOf_set (by omega) ?_).symm
      have := part_get (l := s.data.toList) (i := i) (a := 24) (b := 24 + p.length) (by omega) hi2
      rw [← exs, h.text] at this
      rw [this]; exact hc
end Go.Proofs.Ytkfbifondpbieaa
