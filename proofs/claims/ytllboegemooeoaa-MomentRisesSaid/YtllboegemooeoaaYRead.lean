/- The program reads: numbers out of a text, a month by its name. -/
import Derived.Test.YtllboegemooeoaaYTell2
import Derived.Lib.Strings
import Derived.Lib.Slices
import Derived.Lib.Walk
import Derived.Lib.Bytealg
namespace Go.Proofs.Ytllboegemooeoaa
open Go.RowKit

attribute [local go_sem high] run_index_byte
theorem sub_48 (c : UInt8) : IntKind.u8.wrap ((c.toNat : Int) - 48) = ((c - 48).toNat : Int) := by
  have h := c.toNat_lt
  rw [IntKind.wrap_u8, UInt8.toNat_sub]
  have : (48 : UInt8).toNat = 48 := rfl
  omega
attribute [local go_sem high] sub_48
set_option maxRecDepth 100000 in
set_option maxHeartbeats 1000000 in
theorem numberOf_any (F S : List UInt8) (hl : F.length = S.length) (hb : F.length ≤ 100) (c : UInt8) (hc : F.count c ≤ 4) (w : World) : Calls Try.prog 37 #[.string (bs F), .string (bs S), .int .u8 c.toNat] w fun e w' => e = .returned (.int .i64 (Mo.nums c F S 0)) ∧ w = w' := by
  obtain ⟨N, hN⟩ : ∃ N, N = F.length := ⟨_, rfl⟩
  obtain ⟨f, hf⟩ : ∃ f, f = bs F := ⟨_, rfl⟩
  obtain ⟨s, hs⟩ : ∃ s, s = bs S := ⟨_, rfl⟩
  have hfs : f.size = N := by rw [hf, bs_size, hN]
  have hss : s.size = N := by rw [hs, bs_size, hN, hl]
  rw [← hf, ← hs]
  have HF := Lib.hid hf; have HS := Lib.hid hs; have HN := Lib.hid hN; have HL := Lib.hid hl; have HC := Lib.hid hc
  rw [← hN] at hb
  clear hf hs hN hl hc
  go_enter Try.func37, Try.ntmps37
  go_wp2_with fail
  go_loopw [7, 11] (fun nv iv wr => ∃ (j x : Nat), j ≤ N ∧ nv = .int .i64 x ∧ iv = .int .i64 j ∧ x ≤ 290000 ∧ Hid (x = Mo.nums c (F.take j) (S.take j) 0) ∧ w = wr) (fun _ iv _ => N - (intOf iv).toNat)
  case atStart => exact ⟨0, 0, by omega, rfl, rfl, by omega, Lib.hid (by rw [List.take_zero, List.take_zero]; rfl), rfl⟩
  case round =>
    obtain ⟨j, x, hj, rfl, rfl, hx, hxe, rfl⟩ := hrel
    by_cases hlt : j < N
    · have hFj : F.take (j + 1) = F.take j ++ [strAt f j] := by
        rw [List.take_succ_eq_append_getElem (by rw [← HN.out]; exact hlt), strAt_eq, HF.out, bs_list, List.getD, List.getElem?_eq_getElem (by rw [← HN.out]; exact hlt)]; rfl
      have hSj : S.take (j + 1) = S.take j ++ [strAt s j] := by
        rw [List.take_succ_eq_append_getElem (by rw [← HL.out, ← HN.out]; exact hlt), strAt_eq, HS.out, bs_list, List.getD, List.getElem?_eq_getElem (by rw [← HL.out, ← HN.out]; exact hlt)]; rfl
      have hsn := Mo.nums_snoc c (F.take j) (S.take j) 0 (strAt f j) (strAt s j) (by rw [List.length_take, List.length_take, HL.out])
      rw [← hFj, ← hSj, ← hxe.out] at hsn
      have hsm := Mo.nums_small c (F.take (j + 1)) (S.take (j + 1)) (Nat.le_trans (List.Sublist.count_le _ (List.take_sublist _ _)) HC.out)
      rw [hsn] at hsm
      have HSN := Lib.hid hsn
      have hd := (strAt s j - 48).toNat_lt
      clear hFj hSj hsn
      by_cases he : strAt f j = c
      · rw [if_pos he] at hsm
        have HE := Lib.hid he
        have q : (((strAt f j).toNat : Int) == (c.toNat : Int)) = true := by rw [he]; simp
        clear he
        go_wp2_with fail
        go_roundw
        case rel => exact ⟨j + 1, x * 10 + (strAt s j - 48).toNat, by omega, by go_num, by go_num, hsm, Lib.hid (by rw [HSN.out, if_pos HE.out]), trivial⟩
        case measure => simp [intOf]; omega
      · rw [if_neg he] at hsm
        have q : (((strAt f j).toNat : Int) == (c.toNat : Int)) = false := by
          have : (strAt f j).toNat ≠ c.toNat := fun h => he (UInt8.toNat_inj.1 h)
          simp; omega
        have HE := Lib.hid he
        clear he
        go_wp2_with fail
        go_roundw
        case rel => exact ⟨j + 1, x, by omega, rfl, by go_num, hx, Lib.hid (by rw [HSN.out, if_neg HE.out]), trivial⟩
        case measure => simp [intOf]; omega
    · obtain rfl : j = N := by omega
      go_wp2_with fail
      go_ret
      refine ⟨?_, rfl⟩
      rw [show Mo.nums c F S 0 = x by rw [hxe.out, List.take_of_length_le (by rw [HN.out]; exact Nat.le_refl _), List.take_of_length_le (by rw [HN.out, HL.out]; exact Nat.le_refl _)]]
      rfl
set_option maxHeartbeats 1000000 in
set_option maxRecDepth 100000 in
theorem slIndexByte (s : ByteArray) (c : Int) (w : World) : Calls Try.prog 47 #[.string s, .int .u8 c] w fun e w' => e = .returned (.int .i64 (Lib.indexByte s.data.toList c.toNat.toUInt8)) ∧ w' = w := by
  go_enter Try.func47, Try.ntmps47
  go_wp2
  rw [run_callFunc_extern Try.func48 (by kernel_rfl) (by kernel_rfl) (by kernel_rfl) (e := Extern.BytealgIndexByte.indexByte) (by kernel_rfl), Lib.run_indexByteString]
  simp only [Result.andThen]
  rw [Oper.upon_value]
  go_wp2
  go_ret
  exact ⟨rfl, rfl⟩
theorem indexN (F : List UInt8) (k : Int) (hk : Lib.indexByte F 110 = k) (w : World) : Calls Try.prog 45 #[.string (bs F), .int .u8 110] w fun e w' => e = .returned (.int .i64 k) ∧ w' = w := by
  have h := fun v => slIndexByte (bs F) 110 v
  rw [bs_list] at h
  rw [show ((110 : Int).toNat.toUInt8) = (110 : UInt8) from rfl, hk] at h
  have H := Lib.hid h
  clear h hk
  go_enter Try.func45, Try.ntmps45
  go_wp2_with (go_at_call 47; refine (H.out _).mono ?_; rintro e w' ⟨rfl, rfl⟩)
  go_ret
  exact ⟨rfl, rfl⟩
theorem monthOf_num (F S : List UInt8) (hk : Lib.indexByte F 110 = -1) (hl : F.length = S.length) (hb : F.length ≤ 100) (hc : F.count 109 ≤ 4) (w : World) : Calls Try.prog 38 #[.string (bs F), .string (bs S)] w fun e w' => e = .returned (.int .i64 (Mo.nums 109 F S 0)) ∧ Below w.heap.size w w' := by
  have H1 := Lib.hid (fun v : World => indexN F (-1) hk v)
  have H2 := Lib.hid (fun v : World => numberOf_any F S hl hb 109 hc v)
  clear hk hl hb hc
  obtain ⟨x, hx⟩ : ∃ x, x = Mo.nums 109 F S 0 := ⟨_, rfl⟩
  rw [← hx] at H2 ⊢
  clear hx
  go_enter Try.func38, Try.ntmps38
  go_wp2_with (first | (go_at_call 45; refine (H1.out _).mono ?_; rintro e w' ⟨rfl, rfl⟩) | (go_at_call 37; refine (H2.out _).mono ?_; rintro e w' ⟨rfl, rfl⟩))
  go_ret
  exact ⟨rfl, Below.refl _ _⟩
end Go.Proofs.Ytllboegemooeoaa
