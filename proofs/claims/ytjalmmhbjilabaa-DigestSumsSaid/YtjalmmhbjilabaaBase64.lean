/- The walk of a text in base 64. -/
import Derived.Test.YtjalmmhbjilabaaUnhex
namespace Go.Proofs.Ytjalmmhbjilabaa
open Go.RowKit

def tab64 : ByteArray := ⟨#[65, 66, 67, 68, 69, 70, 71, 72, 73, 74, 75, 76, 77, 78, 79, 80, 81, 82, 83, 84, 85, 86, 87, 88, 89, 90, 97, 98, 99, 100, 101, 102, 103, 104, 105, 106, 107, 108, 109, 110, 111, 112, 113, 114, 115, 116, 117, 118, 119, 120, 121, 122, 48, 49, 50, 51, 52, 53, 54, 55, 56, 57, 43, 47]⟩
theorem tab64_size : tab64.size = 64 := rfl
theorem tab64_list : tab64.data.toList = Dig.digits64 := by decide +kernel
theorem fold_tab64 : (⟨#[65, 66, 67, 68, 69, 70, 71, 72, 73, 74, 75, 76, 77, 78, 79, 80, 81, 82, 83, 84, 85, 86, 87, 88, 89, 90, 97, 98, 99, 100, 101, 102, 103, 104, 105, 106, 107, 108, 109, 110, 111, 112, 113, 114, 115, 116, 117, 118, 119, 120, 121, 122, 48, 49, 50, 51, 52, 53, 54, 55, 56, 57, 43, 47]⟩ : ByteArray) = tab64 := rfl
attribute [irreducible] tab64
theorem run_index_64 {P : Program} (w : World) (t : TypeId) (k : IntKind) (x : Int) (h : P.underlying t = some .string) :
    (Instr.index t (.string tab64) (.int k (x % 64))).run P w = .ok (.int .u8 ((Dig.dig64 (x % 64).toNat).toNat : Int)) w := by
  obtain ⟨n, hn⟩ : ∃ n : Nat, x % 64 = (n : Int) := ⟨(x % 64).toNat, by omega⟩
  rw [hn, run_index_byte w t _ k _ h (by rw [tab64_size]; omega), strAt_eq, tab64_list]
  congr 3; unfold Dig.dig64; rfl
theorem step_copy_str {P : Program} {ops : Array Oper} {o : Oper} {a : Act} {w : World} {K : Act → World → Prop} {Q : Exit → Act → World → Prop} {E : Prop} (hgd : o.guard = none) (d s : Operand) (dT sT : TypeId)
    (ho : o.op = .call { callee := .builtin .copy, args := #[d, s], argTypes := #[dT, sT] }) (elem : TypeId) (hu : P.underlying dT = some (.slice elem)) (hsz : (P.info? elem).map (·.size) = some 1)
    (b off dLen dCap : Nat) (t : ByteArray) (hd : a.eval d = .slice (some ⟨b, off, none⟩) dLen dCap) (hs : a.eval s = .string t) (ht : w.there b off (Nat.min t.size dLen))
    (h : K (a.put o.dst (goInt (Nat.min t.size dLen))) (w.setCells b off (strCells t (Nat.min t.size dLen)))) :
    if Region.wanted o (yielded ops a.tmps) = true then Oper.wp P o a w K Q else E := by
  have hw : Region.wanted o (yielded ops a.tmps) = true := by simp [Region.wanted, hgd]
  rw [if_pos hw]
  have hrun := run_copy_str (P := P) w dT sT o.type elem b off dLen dCap t hu hsz ht
  unfold Oper.wp
  simp [execOp, ho, resolve, invoke, builtin, hd, hs, hrun, Result.andThen]
  exact h
theorem run_rest_string {P : Program} (w : World) (t : TypeId) (s : ByteArray) (k : IntKind) (i : Nat) (h : P.underlying t = some .string) (hi : i ≤ s.size) :
    (Instr.slice t (.string s) (some (.int k (i : Int))) none none).run P w = .ok (.string (s.extract i s.size)) w := by
  rw [run_slice_string_from_if w t s k i h, if_pos (by omega)]; simp
theorem alloc3 (w : World) : (Instr.alloc 63 true (.tuple #[])).run Try.prog w = .ok (.pointer (some ⟨w.heap.size, 0, none⟩)) (w.alloc (.cells [Value.int .u8 0, .int .u8 0, .int .u8 0].toArray 63)) := by kernel_rfl
/-- Three cells that begin with up to three bytes. -/
theorem laid3 (c : List UInt8) (h : c.length ≤ 3) : laid [Value.int .u8 0, .int .u8 0, .int .u8 0] 0 (c.map u8v) = [.int .u8 (c.getD 0 0).toNat, .int .u8 (c.getD 1 0).toNat, .int .u8 (c.getD 2 0).toNat] := by
  match c, h with
  | [], _ => rfl
  | [a], _ => rfl
  | [a, b], _ => rfl
  | [a, b, d], _ => rfl
  | a :: b :: d :: e :: r, h => simp only [List.length_cons] at h; omega
attribute [local go_sem high] run_rest_string run_index_64 fold_tab64

theorem valueOf_upper (n : Nat) (h1 : 65 ≤ n) (h2 : n ≤ 90) (w : World) : Calls Try.prog 54 #[.int .u8 n] w fun e w' => e = .returned (.tuple #[.int .u8 ((n : Int) - 65), .bool true]) ∧ w = w' := by
  go_enter Try.func54, Try.ntmps54
  go_wp2
  go_ret2
  exact ⟨rfl, rfl⟩
theorem valueOf_lower (n : Nat) (h1 : 97 ≤ n) (h2 : n ≤ 122) (w : World) : Calls Try.prog 54 #[.int .u8 n] w fun e w' => e = .returned (.tuple #[.int .u8 ((n : Int) - 97 + 26), .bool true]) ∧ w = w' := by
  go_enter Try.func54, Try.ntmps54
  go_wp2
  go_ret2
  exact ⟨rfl, rfl⟩
theorem valueOf_digit (n : Nat) (h1 : 48 ≤ n) (h2 : n ≤ 57) (w : World) : Calls Try.prog 54 #[.int .u8 n] w fun e w' => e = .returned (.tuple #[.int .u8 ((n : Int) - 48 + 52), .bool true]) ∧ w = w' := by
  go_enter Try.func54, Try.ntmps54
  go_wp2
  go_ret2
  exact ⟨rfl, rfl⟩
theorem valueOf_plus (w : World) : Calls Try.prog 54 #[.int .u8 43] w fun e w' => e = .returned (.tuple #[.int .u8 62, .bool true]) ∧ w = w' := by
  go_enter Try.func54, Try.ntmps54
  go_wp2
  go_ret2
  exact ⟨rfl, rfl⟩
theorem valueOf_slash (w : World) : Calls Try.prog 54 #[.int .u8 47] w fun e w' => e = .returned (.tuple #[.int .u8 63, .bool true]) ∧ w = w' := by
  go_enter Try.func54, Try.ntmps54
  go_wp2
  go_ret2
  exact ⟨rfl, rfl⟩
theorem valueOf_none (n : Nat) (h0 : n < 256) (h1 : n < 65 ∨ 90 < n) (h2 : n < 97 ∨ 122 < n) (h3 : n < 48 ∨ 57 < n) (h4 : n ≠ 43) (h5 : n ≠ 47) (w : World) :
    Calls Try.prog 54 #[.int .u8 n] w fun e w' => e = .returned (.tuple #[.int .u8 0, .bool false]) ∧ w = w' := by
  have h4' : ((n : Int) == 43) = false := by rw [beq_eq_false_iff_ne]; omega
  have h5' : ((n : Int) == 47) = false := by rw [beq_eq_false_iff_ne]; omega
  go_enter Try.func54, Try.ntmps54
  go_wp2
  all_goals (go_ret2; exact ⟨rfl, rfl⟩)
theorem valueOf_yes (c : UInt8) (h : Dig.value c < 64) (w : World) : Calls Try.prog 54 #[.int .u8 c.toNat] w fun e w' => e = .returned (.tuple #[.int .u8 (Dig.value c), .bool true]) ∧ w = w' := by
  have h0 := c.toNat_lt
  rw [Dig.value_eq] at h ⊢
  unfold Dig.valueN at h ⊢
  by_cases h1 : 65 ≤ c.toNat ∧ c.toNat ≤ 90
  · rw [if_pos h1]
    refine (valueOf_upper _ h1.1 h1.2 w).mono ?_
    rintro e w' ⟨rfl, rfl⟩
    exact ⟨by rw [Int.natCast_sub h1.1]; rfl, rfl⟩
  · rw [if_neg h1] at h ⊢
    by_cases h2 : 97 ≤ c.toNat ∧ c.toNat ≤ 122
    · rw [if_pos h2]
      refine (valueOf_lower _ h2.1 h2.2 w).mono ?_
      rintro e w' ⟨rfl, rfl⟩
      refine ⟨?_, rfl⟩
      rw [show ((c.toNat - 71 : Nat) : Int) = (c.toNat : Int) - 97 + 26 from by omega]
    · rw [if_neg h2] at h ⊢
      by_cases h3 : 48 ≤ c.toNat ∧ c.toNat ≤ 57
      · rw [if_pos h3]
        refine (valueOf_digit _ h3.1 h3.2 w).mono ?_
        rintro e w' ⟨rfl, rfl⟩
        refine ⟨?_, rfl⟩
        rw [show ((c.toNat + 4 : Nat) : Int) = (c.toNat : Int) - 48 + 52 from by omega]
      · rw [if_neg h3] at h ⊢
        by_cases h4 : c.toNat = 43
        · rw [if_pos h4, h4]; exact valueOf_plus w
        · rw [if_neg h4] at h ⊢
          by_cases h5 : c.toNat = 47
          · rw [if_pos h5, h5]; exact valueOf_slash w
          · rw [if_neg h5] at h; omega
theorem valueOf_no (c : UInt8) (h : ¬ Dig.value c < 64) (w : World) : Calls Try.prog 54 #[.int .u8 c.toNat] w fun e w' => e = .returned (.tuple #[.int .u8 0, .bool false]) ∧ w = w' := by
  have h0 := c.toNat_lt
  rw [Dig.value_eq] at h
  unfold Dig.valueN at h
  by_cases h1 : 65 ≤ c.toNat ∧ c.toNat ≤ 90
  · rw [if_pos h1] at h; omega
  · rw [if_neg h1] at h
    by_cases h2 : 97 ≤ c.toNat ∧ c.toNat ≤ 122
    · rw [if_pos h2] at h; omega
    · rw [if_neg h2] at h
      by_cases h3 : 48 ≤ c.toNat ∧ c.toNat ≤ 57
      · rw [if_pos h3] at h; omega
      · rw [if_neg h3] at h
        by_cases h4 : c.toNat = 43
        · rw [if_pos h4] at h; omega
        · rw [if_neg h4] at h
          by_cases h5 : c.toNat = 47
          · rw [if_pos h5] at h; omega
          · exact valueOf_none _ h0 (by omega) (by omega) (by omega) h4 h5 w
end Go.Proofs.Ytjalmmhbjilabaa
