/- The program's calls, and the chapter's examples. -/
import Derived.Test.YtllboegemooeoaaYRefS
namespace Go.Proofs.Ytllboegemooeoaa
open Go.RowKit

theorem lit_fS : (⟨#[121, 121, 121, 121, 109, 109, 100, 100, 84, 104, 104, 105, 105, 115, 115, 90]⟩ : ByteArray) = bs Mo.fS := by rw [← bs_eq]; rfl
theorem lit_fL : (⟨#[121, 121, 121, 121, 45, 109, 109, 45, 100, 100, 84, 104, 104, 58, 105, 105, 58, 115, 115, 46, 48, 48, 48, 90]⟩ : ByteArray) = bs Mo.fL := by rw [← bs_eq]; rfl
theorem lit_fW : (⟨#[119, 119, 119, 44, 32, 100, 100, 32, 110, 110, 110, 32, 121, 121, 121, 121, 32, 104, 104, 58, 105, 105, 58, 115, 115, 32, 71, 77, 84]⟩ : ByteArray) = bs Mo.fW := by rw [← bs_eq]; rfl
attribute [local go_sem high] lit_fS lit_fL lit_fW
theorem Stamp_ok (t : Nat) (ht : t < 253402300800) (w : World) : Calls Try.prog 9 #[.int .i64 t] w fun e w' => e = .returned (.tuple #[.string (bs (Mo.tx Mo.fS t)), .int .i64 0]) ∧ Below w.heap.size w w' := by
  have C := Lib.hid (fun v : World => tell_ok t ht Mo.fS ⟨frm_S.l1, frm_S.l2⟩ (frm_S.tx t) v)
  generalize Mo.tx Mo.fS t = X at *
  go_enter Try.func9, Try.ntmps9
  go_wp2_with (go_at_call 26; refine (C.out _).mono ?_; rintro e w2 ⟨rfl, hb2⟩)
  go_ret2
  exact ⟨rfl, hb2⟩
theorem Stamp_no (t : Int) (ht : t < 0 ∨ 253402300799 < t) (w : World) : Calls Try.prog 9 #[.int .i64 t] w fun e w' => e = .returned (.tuple #[.string (bs []), .int .i64 1]) ∧ Below w.heap.size w w' := by
  have C := Lib.hid (fun v : World => tell_no t ht Mo.fS v)
  clear ht
  go_enter Try.func9, Try.ntmps9
  go_wp2_with (go_at_call 26; refine (C.out _).mono ?_; rintro e w2 ⟨rfl, rfl⟩)
  go_ret2
  exact ⟨rfl, Below.refl _ _⟩
theorem ReadStamp_hit (t : Nat) (ht : t < 253402300800) (w : World) : Calls Try.prog 12 #[.string (bs (Mo.tx Mo.fS t))] w fun e w' => e = .returned (.tuple #[.int .i64 t, .int .i64 0]) ∧ Below w.heap.size w w' := by
  have C := Lib.hid (fun v : World => read_hit frm_S t ht v)
  generalize Mo.tx Mo.fS t = X at *
  go_enter Try.func12, Try.ntmps12
  go_wp2_with (go_at_call 27; refine (C.out _).mono ?_; rintro e w2 ⟨rfl, hb2⟩)
  go_ret2
  exact ⟨rfl, hb2⟩
theorem ReadStamp_miss (S : List UInt8) (hS : ∀ t, t < 253402300800 → Mo.tx Mo.fS t ≠ S) (w : World) : Calls Try.prog 12 #[.string (bs S)] w fun e w' => e = .returned (.tuple #[.int .i64 0, .int .i64 51]) ∧ Below w.heap.size w w' := by
  have C := Lib.hid (fun v : World => read_miss frm_S S hS v)
  clear hS
  go_enter Try.func12, Try.ntmps12
  go_wp2_with (go_at_call 27; refine (C.out _).mono ?_; rintro e w2 ⟨rfl, hb2⟩)
  go_ret2
  exact ⟨rfl, hb2⟩
theorem Long_ok (t : Nat) (ht : t < 253402300800) (w : World) : Calls Try.prog 10 #[.int .i64 t] w fun e w' => e = .returned (.tuple #[.string (bs (Mo.tx Mo.fL t)), .int .i64 0]) ∧ Below w.heap.size w w' := by
  have C := Lib.hid (fun v : World => tell_ok t ht Mo.fL ⟨frm_L.l1, frm_L.l2⟩ (frm_L.tx t) v)
  generalize Mo.tx Mo.fL t = X at *
  go_enter Try.func10, Try.ntmps10
  go_wp2_with (go_at_call 26; refine (C.out _).mono ?_; rintro e w2 ⟨rfl, hb2⟩)
  go_ret2
  exact ⟨rfl, hb2⟩
theorem Long_no (t : Int) (ht : t < 0 ∨ 253402300799 < t) (w : World) : Calls Try.prog 10 #[.int .i64 t] w fun e w' => e = .returned (.tuple #[.string (bs []), .int .i64 1]) ∧ Below w.heap.size w w' := by
  have C := Lib.hid (fun v : World => tell_no t ht Mo.fL v)
  clear ht
  go_enter Try.func10, Try.ntmps10
  go_wp2_with (go_at_call 26; refine (C.out _).mono ?_; rintro e w2 ⟨rfl, rfl⟩)
  go_ret2
  exact ⟨rfl, Below.refl _ _⟩
theorem ReadLong_hit (t : Nat) (ht : t < 253402300800) (w : World) : Calls Try.prog 13 #[.string (bs (Mo.tx Mo.fL t))] w fun e w' => e = .returned (.tuple #[.int .i64 t, .int .i64 0]) ∧ Below w.heap.size w w' := by
  have C := Lib.hid (fun v : World => read_hit frm_L t ht v)
  generalize Mo.tx Mo.fL t = X at *
  go_enter Try.func13, Try.ntmps13
  go_wp2_with (go_at_call 27; refine (C.out _).mono ?_; rintro e w2 ⟨rfl, hb2⟩)
  go_ret2
  exact ⟨rfl, hb2⟩
theorem ReadLong_miss (S : List UInt8) (hS : ∀ t, t < 253402300800 → Mo.tx Mo.fL t ≠ S) (w : World) : Calls Try.prog 13 #[.string (bs S)] w fun e w' => e = .returned (.tuple #[.int .i64 0, .int .i64 51]) ∧ Below w.heap.size w w' := by
  have C := Lib.hid (fun v : World => read_miss frm_L S hS v)
  clear hS
  go_enter Try.func13, Try.ntmps13
  go_wp2_with (go_at_call 27; refine (C.out _).mono ?_; rintro e w2 ⟨rfl, hb2⟩)
  go_ret2
  exact ⟨rfl, hb2⟩
theorem Web_ok (t : Nat) (ht : t < 253402300800) (w : World) : Calls Try.prog 11 #[.int .i64 t] w fun e w' => e = .returned (.tuple #[.string (bs (Mo.tx Mo.fW t)), .int .i64 0]) ∧ Below w.heap.size w w' := by
  have C := Lib.hid (fun v : World => tell_ok t ht Mo.fW ⟨frm_W.l1, frm_W.l2⟩ (frm_W.tx t) v)
  generalize Mo.tx Mo.fW t = X at *
  go_enter Try.func11, Try.ntmps11
  go_wp2_with (go_at_call 26; refine (C.out _).mono ?_; rintro e w2 ⟨rfl, hb2⟩)
  go_ret2
  exact ⟨rfl, hb2⟩
theorem Web_no (t : Int) (ht : t < 0 ∨ 253402300799 < t) (w : World) : Calls Try.prog 11 #[.int .i64 t] w fun e w' => e = .returned (.tuple #[.string (bs []), .int .i64 1]) ∧ Below w.heap.size w w' := by
  have C := Lib.hid (fun v : World => tell_no t ht Mo.fW v)
  clear ht
  go_enter Try.func11, Try.ntmps11
  go_wp2_with (go_at_call 26; refine (C.out _).mono ?_; rintro e w2 ⟨rfl, rfl⟩)
  go_ret2
  exact ⟨rfl, Below.refl _ _⟩
theorem ReadWeb_hit (t : Nat) (ht : t < 253402300800) (w : World) : Calls Try.prog 14 #[.string (bs (Mo.tx Mo.fW t))] w fun e w' => e = .returned (.tuple #[.int .i64 t, .int .i64 0]) ∧ Below w.heap.size w w' := by
  have C := Lib.hid (fun v : World => read_hit frm_W t ht v)
  generalize Mo.tx Mo.fW t = X at *
  go_enter Try.func14, Try.ntmps14
  go_wp2_with (go_at_call 27; refine (C.out _).mono ?_; rintro e w2 ⟨rfl, hb2⟩)
  go_ret2
  exact ⟨rfl, hb2⟩
theorem ReadWeb_miss (S : List UInt8) (hS : ∀ t, t < 253402300800 → Mo.tx Mo.fW t ≠ S) (w : World) : Calls Try.prog 14 #[.string (bs S)] w fun e w' => e = .returned (.tuple #[.int .i64 0, .int .i64 51]) ∧ Below w.heap.size w w' := by
  have C := Lib.hid (fun v : World => read_miss frm_W S hS v)
  clear hS
  go_enter Try.func14, Try.ntmps14
  go_wp2_with (go_at_call 27; refine (C.out _).mono ?_; rintro e w2 ⟨rfl, hb2⟩)
  go_ret2
  exact ⟨rfl, hb2⟩

/-! The chapter's examples. -/
theorem ex_S : Mo.tx Mo.fS 1369353600 = [50, 48, 49, 51, 48, 53, 50, 52, 84, 48, 48, 48, 48, 48, 48, 90] := by decide +kernel
theorem ex_L : Mo.tx Mo.fL 1369353600 = [50, 48, 49, 51, 45, 48, 53, 45, 50, 52, 84, 48, 48, 58, 48, 48, 58, 48, 48, 46, 48, 48, 48, 90] := by decide +kernel
theorem ex_W : Mo.tx Mo.fW 1369353600 = [70, 114, 105, 44, 32, 50, 52, 32, 77, 97, 121, 32, 50, 48, 49, 51, 32, 48, 48, 58, 48, 48, 58, 48, 48, 32, 71, 77, 84] := by decide +kernel
theorem ex_D : Mo.dy (951782400 / 86400) = 2000 ∧ Mo.dm (951782400 / 86400) = 2 ∧ Mo.dd (951782400 / 86400) = 29 := by decide +kernel
theorem ex_E (t : Nat) (ht : t < 253402300800) : Mo.tx Mo.fS t ≠ [50, 48, 49, 51, 48, 50, 51, 48, 84, 48, 48, 48, 48, 48, 48, 90] := fun h => by
  have h1 := ((Mo.read_S t ht).back ht).1.d2
  rw [h] at h1
  exact absurd h1 (by decide +kernel)
theorem lit_E : (⟨#[50, 48, 49, 51, 48, 50, 51, 48, 84, 48, 48, 48, 48, 48, 48, 90]⟩ : ByteArray) = bs [50, 48, 49, 51, 48, 50, 51, 48, 84, 48, 48, 48, 48, 48, 48, 90] := by rw [← bs_eq]
theorem bs_is (l : List UInt8) : ((bs l).toList == l) = true := by rw [ByteArray.toList_eq, bs_list]; simp
set_option maxRecDepth 100000 in
set_option maxHeartbeats 1000000 in
theorem examples_true (w : World) : Calls Try.prog 8 #[] w fun e w' => e = .returned (.bool true) ∧ Below w.heap.size w w' := by
  have C1 := Lib.hid (fun v : World => Stamp_ok 1369353600 (by omega) v)
  have C2 := Lib.hid (fun v : World => Long_ok 1369353600 (by omega) v)
  have C3 := Lib.hid (fun v : World => Web_ok 1369353600 (by omega) v)
  have C4 := Lib.hid (fun v : World => Date_ok 951782400 (by omega) v)
  rw [ex_D.1, ex_D.2.1, ex_D.2.2] at C4
  rw [ex_S] at C1; rw [ex_L] at C2; rw [ex_W] at C3
  have C5 := Lib.hid (fun v : World => From_no 2100 2 29 (.inr (.inr (.inr (.inr (.inr ⟨2100, 2, rfl, rfl, by decide⟩))))) v)
  have C6 := Lib.hid (fun v : World => ReadStamp_miss [50, 48, 49, 51, 48, 50, 51, 48, 84, 48, 48, 48, 48, 48, 48, 90] ex_E v)
  rw [← lit_E] at C6
  have q1 := bs_is [50, 48, 49, 51, 48, 53, 50, 52, 84, 48, 48, 48, 48, 48, 48, 90]
  have q2 := bs_is [50, 48, 49, 51, 45, 48, 53, 45, 50, 52, 84, 48, 48, 58, 48, 48, 58, 48, 48, 46, 48, 48, 48, 90]
  have q3 := bs_is [70, 114, 105, 44, 32, 50, 52, 32, 77, 97, 121, 32, 50, 48, 49, 51, 32, 48, 48, 58, 48, 48, 58, 48, 48, 32, 71, 77, 84]
  obtain ⟨x1, h1⟩ : ∃ x, x = bs [50, 48, 49, 51, 48, 53, 50, 52, 84, 48, 48, 48, 48, 48, 48, 90] := ⟨_, rfl⟩
  obtain ⟨x2, h2⟩ : ∃ x, x = bs [50, 48, 49, 51, 45, 48, 53, 45, 50, 52, 84, 48, 48, 58, 48, 48, 58, 48, 48, 46, 48, 48, 48, 90] := ⟨_, rfl⟩
  obtain ⟨x3, h3⟩ : ∃ x, x = bs [70, 114, 105, 44, 32, 50, 52, 32, 77, 97, 121, 32, 50, 48, 49, 51, 32, 48, 48, 58, 48, 48, 58, 48, 48, 32, 71, 77, 84] := ⟨_, rfl⟩
  rw [← h1] at C1 q1; rw [← h2] at C2 q2; rw [← h3] at C3 q3
  clear h1 h2 h3
  go_enter Try.func8, Try.ntmps8
  go_wp2_with (first | (go_at_call 9; refine (C1.out _).mono ?_; rintro e w1 ⟨rfl, hb1⟩) | (go_at_call 10; refine (C2.out _).mono ?_; rintro e w2 ⟨rfl, hb2⟩) | (go_at_call 11; refine (C3.out _).mono ?_; rintro e w3 ⟨rfl, hb3⟩) | (go_at_call 15; refine (C4.out _).mono ?_; rintro e w4 ⟨rfl, hb4⟩) | (go_at_call 16; refine (C5.out _).mono ?_; rintro e w' ⟨rfl, rfl⟩) | (go_at_call 12; refine (C6.out _).mono ?_; rintro e w6 ⟨rfl, hb6⟩))
  go_ret
  have s1 := hb1.size; have s2 := hb2.size; have s3 := hb3.size; have s4 := hb4.size
  exact ⟨rfl, hb1.trans ((hb2.trans ((hb3.trans ((hb4.trans (hb6.mono s4)).mono s3)).mono s2)).mono s1)⟩
end Go.Proofs.Ytllboegemooeoaa
