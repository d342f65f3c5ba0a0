/- The document's own answer: numbers as digits, moments as texts. -/
import Derived.Test.YtllboegemooeoaaYRef2
namespace Go.Proofs.Ytllboegemooeoaa
open Go.RowKit

def tab10 : ByteArray := ⟨#[48, 49, 50, 51, 52, 53, 54, 55, 56, 57]⟩
theorem tab10_list : tab10.data.toList = [48, 49, 50, 51, 52, 53, 54, 55, 56, 57] := rfl
theorem fold_tab10 : (⟨#[48, 49, 50, 51, 52, 53, 54, 55, 56, 57]⟩ : ByteArray) = tab10 := rfl
theorem tab10_size : tab10.size = 10 := rfl
theorem tab10_at (k : Nat) (h : k < 10) : (tab10.data.toList.take (k + 1)).drop k = [Mo.dg k] := by
  rw [tab10_list]
  have : ∀ k < 10, ([48, 49, 50, 51, 52, 53, 54, 55, 56, 57].take (k + 1)).drop k = [UInt8.ofNat (48 + k % 10)] := by decide
  rw [this k h]
  congr 1
  apply UInt8.toNat_inj.1
  rw [Mo.dg_toNat, UInt8.toNat_ofNat']; omega
attribute [irreducible] tab10
theorem dg_mod (n : Nat) : Mo.dg (n % 10) = Mo.dg n := UInt8.toNat_inj.1 (by rw [Mo.dg_toNat, Mo.dg_toNat]; omega)
theorem run_dig {P : Program} (w : World) (t : TypeId) (k k' : IntKind) (n : Nat) (h : P.underlying t = some .string) :
    (Instr.slice t (.string tab10) (some (.int k ((n : Int) % 10))) (some (.int k' ((n : Int) % 10 + 1))) none).run P w = .ok (.string (bs [Mo.dg n])) w := by
  have := run_mid_string w t tab10 k k' (n % 10) (n % 10 + 1) h (by omega) (by rw [tab10_size]; omega)
  rw [show (n : Int) % 10 = ((n % 10 : Nat) : Int) by omega, show ((n % 10 : Nat) : Int) + 1 = ((n % 10 + 1 : Nat) : Int) by omega, this]
  congr 2
  exact bs_of (by rw [extract_list, tab10_at _ (by omega), dg_mod])
attribute [local go_sem high] run_dig fold_tab10
theorem bs_nil : (⟨#[]⟩ : ByteArray) = bs [] := by rw [← bs_eq]
theorem add_bs (a b : List UInt8) (h : a.length + b.length ≤ 1000000) (w : World) : (Op.stringOp .add (bs a) (bs b)).run Try.prog w = .ok (.string (bs (a ++ b))) w := by
  rw [run_string_add_sum w _ _ (by rw [bs_size, bs_size]; omega), bs_append]
set_option maxRecDepth 100000 in
set_option maxHeartbeats 1000000 in
theorem qdigits_any (n many : Nat) (hn : n < 4611686018427387904) (hm : many ≤ 100) (w : World) : Calls Try.prog 32 #[.int .i64 n, .int .i64 many] w fun e w' => e = .returned (.string (bs (Mo.dgs many n))) ∧ w = w' := by
  obtain ⟨T, hT⟩ : ∃ T, T = Mo.dgs many n := ⟨_, rfl⟩
  rw [← hT]
  have HT := Lib.hid hT
  clear hT
  go_enter Try.func32, Try.ntmps32
  go_wp2_with fail
  go_loopw [0, 5, 6] (fun nv sv iv wr => ∃ (j x : Nat) (l : List UInt8), j ≤ many ∧ nv = .int .i64 x ∧ iv = .int .i64 j ∧ sv = .string (bs l) ∧ x ≤ n ∧ l.length = j ∧ Hid (T = Mo.dgs (many - j) x ++ l) ∧ w = wr) (fun _ _ iv _ => many - (intOf iv).toNat)
  case atStart => exact ⟨0, n, [], by omega, rfl, rfl, by rw [bs_nil], by omega, rfl, Lib.hid (by rw [HT.out, List.append_nil]; rfl), rfl⟩
  case round =>
    obtain ⟨j, x, l, hj, rfl, rfl, rfl, hx, hll, hl, rfl⟩ := hrel
    by_cases hlt : j < many
    · have a1 : ∀ v : World, (Op.stringOp .add (bs [Mo.dg x]) (bs l)).run Try.prog v = .ok (.string (bs ([Mo.dg x] ++ l))) v := fun v => add_bs _ _ (by simp; omega) v
      have HLL := Lib.hid hll
      clear hll
      go_wp2_with fail
      go_roundw
      case rel =>
        refine ⟨j + 1, x / 10, [Mo.dg x] ++ l, by omega, by go_num, by go_num, by rfl, by omega, by simp [HLL.out], Lib.hid ?_, trivial⟩
        rw [hl.out, show many - j = many - (j + 1) + 1 by omega, Mo.dgs, List.append_assoc]
      case measure => simp [intOf]; omega
    · obtain rfl : j = many := by omega
      go_wp2_with fail
      go_ret
      refine ⟨?_, rfl⟩
      rw [hl.out, Nat.sub_self]
      rfl
theorem qdigits_q2 (n : Nat) (hn : n < 4611686018427387904) (w : World) : Calls Try.prog 32 #[.int .i64 n, .int .i64 2] w fun e w' => e = .returned (.string (bs (Mo.d2 n))) ∧ w' = w :=
  (qdigits_any n 2 hn (by omega) w).mono fun _ _ h => ⟨h.1, h.2.symm⟩
theorem qdigits_q4 (n : Nat) (hn : n < 4611686018427387904) (w : World) : Calls Try.prog 32 #[.int .i64 n, .int .i64 4] w fun e w' => e = .returned (.string (bs (Mo.d4 n))) ∧ w' = w := by
  rw [← Mo.dgs_4]
  exact (qdigits_any n 4 hn (by omega) w).mono fun _ _ h => ⟨h.1, h.2.symm⟩
end Go.Proofs.Ytllboegemooeoaa
