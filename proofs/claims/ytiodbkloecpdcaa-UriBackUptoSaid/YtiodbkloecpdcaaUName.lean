/- What may be a bucket's name: the program's answer. -/
import Derived.Test.YtiodbkloecpdcaaUSplit
namespace Go.Proofs.Ytiodbkloecpdcaa

namespace Ur
theorem occ_two (S : List UInt8) (a b : UInt8) (j : Nat) : Lib.occAt S [a, b] j = true ↔ (j + 1 < S.length ∧ S.getD j 0 = a ∧ S.getD (j + 1) 0 = b) := by
  unfold Lib.occAt
  constructor
  · intro h
    by_cases hj : j + 1 < S.length
    · rw [drop_cons S j (by omega), drop_cons S (j + 1) hj] at h
      simp only [List.isPrefixOf, Bool.and_eq_true, beq_iff_eq, Bool.and_true] at h
      exact ⟨hj, h.1.symm, h.2.symm⟩
    · exfalso
      by_cases hj2 : j < S.length
      · rw [drop_cons S j hj2, List.drop_eq_nil_of_le (by omega)] at h
        simp [List.isPrefixOf] at h
      · rw [List.drop_eq_nil_of_le (by omega)] at h
        simp [List.isPrefixOf] at h
  · rintro ⟨hj, h1, h2⟩
    rw [drop_cons S j (by omega), drop_cons S (j + 1) hj, h1, h2]
    simp [List.isPrefixOf]
theorem contains_two (S : List UInt8) (a b : UInt8) : Lib.contains S [a, b] = true ↔ ∃ k, k + 1 < S.length ∧ S.getD k 0 = a ∧ S.getD (k + 1) 0 = b := by
  unfold Lib.contains
  rw [decide_eq_true_iff]
  rcases Lib.index_spec S [a, b] with ⟨h1, h2⟩ | ⟨i, h1, h2, h3, _⟩
  · constructor
    · intro h; omega
    · rintro ⟨k, hk⟩
      have := h2 k (by omega)
      rw [(occ_two S a b k).2 hk] at this
      cases this
  · exact ⟨fun _ => ⟨i, (occ_two S a b i).1 h3⟩, fun _ => by omega⟩
def ends (S : List UInt8) : Bool := firm (S.getD 0 0) && firm (S.getD (S.length - 1) 0)
def dots (S : List UInt8) : Bool := !Lib.contains S [46, 46] && !Lib.contains S [45, 46] && !Lib.contains S [46, 45]
def addr (S : List UInt8) : Bool := decide (S.count 46 = 3) && S.all adr
def bkt (S : List UInt8) : Bool := decide (3 ≤ S.length) && decide (S.length ≤ 63) && S.all ofName && ends S && dots S && !addr S
end Ur

open Go.RowKit
/-- What internal/bytealg.MaxLen holds is some number. -/
def Mx (w : World) : Prop := ∃ m : Int, w.cell? ⟨0, 0, none⟩ = some (.int .i64 m)
theorem Mx.below {w v : World} (h : Mx w) (hb : Below w.heap.size w v) : Mx v := by
  obtain ⟨m, hm⟩ := h
  exact ⟨m, cell_below hm hb⟩
theorem contains_any (S : List UInt8) (hS : S.length ≤ 63) (sub : List UInt8) (w : World) (hm : Mx w) : Calls Try.prog 68 #[.string (bs S), .string ⟨sub.toArray⟩] w fun e w' => e = .returned (.bool (Lib.contains S sub)) ∧ w' = w := by
  obtain ⟨m, hm⟩ := hm
  have h := u_strings_Contains (bs S) ⟨sub.toArray⟩ m w (by rw [bs_size]; omega) hm
  rw [bs_list] at h
  exact h
theorem dot_any (S : List UInt8) (w : World) : Calls Try.prog 64 #[.string (bs S), .string ⟨#[46]⟩] w fun e w' => e = .returned (.int .i64 (S.count 46 : Nat)) ∧ w' = w := by
  have h := u_strings_Count_one (bs S) 46 w
  rw [bs_list] at h
  exact h
attribute [local go_sem high] run_index_byte
set_option maxHeartbeats 1000000 in
theorem ends_any (S : List UInt8) (h1 : 1 ≤ S.length) (hS : S.length ≤ 63) (w : World) : Calls Try.prog 42 #[.string (bs S)] w fun e w' => e = .returned (.bool (Ur.ends S)) ∧ w' = w := by
  obtain ⟨s, hs⟩ : ∃ s, s = bs S := ⟨_, rfl⟩
  have hss : s.size = S.length := by rw [hs, bs_size]
  have e1 : strAt s 0 = S.getD 0 0 := by rw [hs]; exact strAt_bs S 0
  have e2 : strAt s (S.length - 1) = S.getD (S.length - 1) 0 := by rw [hs]; exact strAt_bs S _
  rw [Ur.ends, ← e1, ← e2, ← hs]
  have C1 := Lib.hid (fun v : World => isFirm_any (strAt s 0) v)
  have C2 := Lib.hid (fun v : World => isFirm_any (strAt s (S.length - 1)) v)
  have R1 : ∀ v : World, (Instr.index 9 (.string s) (.int .i64 0)).run Try.prog v = .ok (.int .u8 ((strAt s 0).toNat : Int)) v := fun v => run_index_byte v _ _ _ 0 Try.underlying9 (by omega)
  have R2 : ∀ v : World, (Instr.index 9 (.string s) (.int .i64 ((S.length : Int) - 1))).run Try.prog v = .ok (.int .u8 ((strAt s (S.length - 1)).toNat : Int)) v := fun v => by
    have := run_index_byte v 9 s .i64 (S.length - 1) Try.underlying9 (by omega)
    rw [show ((S.length - 1 : Nat) : Int) = (S.length : Int) - 1 by omega] at this
    exact this
  clear hs e1 e2
  generalize strAt s 0 = a at *
  generalize strAt s (S.length - 1) = b at *
  generalize Ur.firm a = x at *
  generalize Ur.firm b = y at *
  cases x
  · go_enter Try.func42, Try.ntmps42
    go_wp2_with (go_at_call 67; first | ((with_reducible refine (C1.out _).mono ?_); rintro e w' ⟨rfl, rfl⟩) | ((with_reducible refine (C2.out _).mono ?_); rintro e w' ⟨rfl, rfl⟩))
    go_ret
    exact ⟨by simp, rfl⟩
  · go_enter Try.func42, Try.ntmps42
    go_wp2_with (go_at_call 67; first | ((with_reducible refine (C1.out _).mono ?_); rintro e w' ⟨rfl, rfl⟩) | ((with_reducible refine (C2.out _).mono ?_); rintro e w' ⟨rfl, rfl⟩))
    go_ret
    exact ⟨by simp, rfl⟩
set_option maxHeartbeats 1000000 in
theorem dots_any (S : List UInt8) (hS : S.length ≤ 63) (w : World) (hm : Mx w) : Calls Try.prog 43 #[.string (bs S)] w fun e w' => e = .returned (.bool (Ur.dots S)) ∧ w' = w := by
  have C1 := Lib.hid (contains_any S hS [46, 46] w hm)
  have C2 := Lib.hid (contains_any S hS [45, 46] w hm)
  have C3 := Lib.hid (contains_any S hS [46, 45] w hm)
  rw [Ur.dots]
  generalize Lib.contains S [46, 46] = x at *
  generalize Lib.contains S [45, 46] = y at *
  generalize Lib.contains S [46, 45] = z at *
  generalize bs S = s at *
  clear hm hS
  cases x
  · cases y
    · go_enter Try.func43, Try.ntmps43
      go_wp2_with (go_at_call 68; first | ((with_reducible refine C1.out.mono ?_); rintro e w' ⟨rfl, hw⟩; obtain rfl := hw.symm; clear hw) | ((with_reducible refine C2.out.mono ?_); rintro e w' ⟨rfl, hw⟩; obtain rfl := hw.symm; clear hw) | ((with_reducible refine C3.out.mono ?_); rintro e w' ⟨rfl, hw⟩; obtain rfl := hw.symm; clear hw))
      go_ret
      exact ⟨by simp, rfl⟩
    · go_enter Try.func43, Try.ntmps43
      go_wp2_with (go_at_call 68; first | ((with_reducible refine C1.out.mono ?_); rintro e w' ⟨rfl, hw⟩; obtain rfl := hw.symm; clear hw) | ((with_reducible refine C2.out.mono ?_); rintro e w' ⟨rfl, hw⟩; obtain rfl := hw.symm; clear hw) | ((with_reducible refine C3.out.mono ?_); rintro e w' ⟨rfl, hw⟩; obtain rfl := hw.symm; clear hw))
      go_ret
      exact ⟨by simp, rfl⟩
  · go_enter Try.func43, Try.ntmps43
    go_wp2_with (go_at_call 68; first | ((with_reducible refine C1.out.mono ?_); rintro e w' ⟨rfl, hw⟩; obtain rfl := hw.symm; clear hw) | ((with_reducible refine C2.out.mono ?_); rintro e w' ⟨rfl, hw⟩; obtain rfl := hw.symm; clear hw) | ((with_reducible refine C3.out.mono ?_); rintro e w' ⟨rfl, hw⟩; obtain rfl := hw.symm; clear hw))
    go_ret
    exact ⟨by simp, rfl⟩
set_option maxHeartbeats 1000000 in
theorem isAddress_any (S : List UInt8) (hS : S.length ≤ 63) (w : World) : Calls Try.prog 44 #[.string (bs S)] w fun e w' => e = .returned (.bool (Ur.addr S)) ∧ Below w.heap.size w w' := by
  have C1 := Lib.hid (fun v : World => dot_any S v)
  have C2 := Lib.hid (fun v : World => every_any S (by omega) 69 #[] Ur.adr kind_Address1 v)
  rw [Ur.addr]
  generalize S.all Ur.adr = x at *
  generalize bs S = s at *
  by_cases h3 : S.count 46 = 3
  · rw [decide_eq_true h3]
    rw [h3] at C1
    clear h3
    go_enter Try.func44, Try.ntmps44
    go_wp2_with (first | (go_at_call 64; refine (C1.out _).mono ?_; rintro e w' ⟨rfl, hw⟩; obtain rfl := hw.symm; clear hw) | (go_at_call 40; refine (C2.out _).mono ?_; rintro e w2 ⟨rfl, hb2⟩))
    go_ret
    exact ⟨by simp, hb2⟩
  · rw [decide_eq_false h3]
    have q : (((S.count 46 : Nat) : Int) == 3) = false := by simp; omega
    clear h3
    generalize S.count 46 = n at *
    go_enter Try.func44, Try.ntmps44
    go_wp2_with (first | (go_at_call 64; refine (C1.out _).mono ?_; rintro e w' ⟨rfl, hw⟩; obtain rfl := hw.symm; clear hw) | (go_at_call 40; refine (C2.out _).mono ?_; rintro e w2 ⟨rfl, hb2⟩))
    go_ret
    exact ⟨by simp, Below.refl _ _⟩
end Go.Proofs.Ytiodbkloecpdcaa
