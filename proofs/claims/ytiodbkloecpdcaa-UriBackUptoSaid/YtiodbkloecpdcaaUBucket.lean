/- What may be a bucket's name: both answers; paths joined. -/
import Derived.Test.YtiodbkloecpdcaaUName
namespace Go.Proofs.Ytiodbkloecpdcaa
open Go.RowKit

attribute [local go_sem high] run_index_byte
set_option maxHeartbeats 1000000 in
theorem Bucket_any (S : List UInt8) (w : World) (hm0 : Mx w) (hS : S.length ≤ 4611686018427387904) : Calls Try.prog 15 #[.string (bs S)] w fun e w' => e = .returned (.bool (Ur.bkt S)) ∧ Below w.heap.size w w' := by
  have hm := Lib.hid hm0
  clear hm0
  obtain ⟨s, hs⟩ : ∃ s, s = bs S := ⟨_, rfl⟩
  have hss : s.size = S.length := by rw [hs, bs_size]
  rw [Ur.bkt]
  by_cases h1 : S.length < 3
  · rw [decide_eq_false (show ¬ 3 ≤ S.length by omega), ← hs]
    clear hs
    go_enter Try.func15, Try.ntmps15
    go_wp2_with fail
    go_ret
    exact ⟨by simp, Below.refl _ _⟩
  by_cases h2 : 63 < S.length
  · rw [decide_eq_false (show ¬ S.length ≤ 63 by omega), ← hs]
    clear hs
    go_enter Try.func15, Try.ntmps15
    go_wp2_with fail
    go_ret
    exact ⟨by simp, Below.refl _ _⟩
  rw [decide_eq_true (show 3 ≤ S.length by omega), decide_eq_true (show S.length ≤ 63 by omega)]
  have C1 := Lib.hid (fun v : World => every_any S (by omega) 41 #[] Ur.ofName kind_OfName v)
  have C2 := Lib.hid (fun v : World => ends_any S (by omega) (by omega) v)
  have C3 := Lib.hid (fun v hm => dots_any S (by omega) v hm)
  have C4 := Lib.hid (fun v : World => isAddress_any S (by omega) v)
  rw [← hs] at C1 C2 C3 C4 ⊢
  clear hs
  generalize S.all Ur.ofName = b1 at *
  generalize Ur.ends S = b2 at *
  generalize Ur.dots S = b3 at *
  generalize Ur.addr S = b4 at *
  cases b1
  · go_enter Try.func15, Try.ntmps15
    go_wp2_with (first | (go_at_call 40; refine (C1.out _).mono ?_; rintro e w2 ⟨rfl, hb2⟩; have HM2 := Lib.hid (hm.out.below hb2)) | (go_at_call 42; refine (C2.out _).mono ?_; rintro e w' ⟨rfl, hw⟩; obtain rfl := hw.symm; clear hw) | (go_at_call 43; refine (C3.out _ HM2.out).mono ?_; rintro e w' ⟨rfl, hw⟩; obtain rfl := hw.symm; clear hw) | (go_at_call 44; refine (C4.out _).mono ?_; rintro e w3 ⟨rfl, hb3⟩))
    go_ret
    exact ⟨by simp, hb2⟩
  cases b2
  · go_enter Try.func15, Try.ntmps15
    go_wp2_with (first | (go_at_call 40; refine (C1.out _).mono ?_; rintro e w2 ⟨rfl, hb2⟩; have HM2 := Lib.hid (hm.out.below hb2)) | (go_at_call 42; refine (C2.out _).mono ?_; rintro e w' ⟨rfl, hw⟩; obtain rfl := hw.symm; clear hw) | (go_at_call 43; refine (C3.out _ HM2.out).mono ?_; rintro e w' ⟨rfl, hw⟩; obtain rfl := hw.symm; clear hw) | (go_at_call 44; refine (C4.out _).mono ?_; rintro e w3 ⟨rfl, hb3⟩))
    go_ret
    exact ⟨by simp, hb2⟩
  cases b3
  · go_enter Try.func15, Try.ntmps15
    go_wp2_with (first | (go_at_call 40; refine (C1.out _).mono ?_; rintro e w2 ⟨rfl, hb2⟩; have HM2 := Lib.hid (hm.out.below hb2)) | (go_at_call 42; refine (C2.out _).mono ?_; rintro e w' ⟨rfl, hw⟩; obtain rfl := hw.symm; clear hw) | (go_at_call 43; refine (C3.out _ HM2.out).mono ?_; rintro e w' ⟨rfl, hw⟩; obtain rfl := hw.symm; clear hw) | (go_at_call 44; refine (C4.out _).mono ?_; rintro e w3 ⟨rfl, hb3⟩))
    go_ret
    exact ⟨by simp, hb2⟩
  go_enter Try.func15, Try.ntmps15
  go_wp2_with (first | (go_at_call 40; refine (C1.out _).mono ?_; rintro e w2 ⟨rfl, hb2⟩; have HM2 := Lib.hid (hm.out.below hb2)) | (go_at_call 42; refine (C2.out _).mono ?_; rintro e w' ⟨rfl, hw⟩; obtain rfl := hw.symm; clear hw) | (go_at_call 43; refine (C3.out _ HM2.out).mono ?_; rintro e w' ⟨rfl, hw⟩; obtain rfl := hw.symm; clear hw) | (go_at_call 44; refine (C4.out _).mono ?_; rintro e w3 ⟨rfl, hb3⟩))
  go_ret
  exact ⟨by simp, bthen hb2 hb3⟩
set_option maxHeartbeats 1000000 in
theorem uJoin_any (B K : List UInt8) (hB : B.length + K.length ≤ 562949953421312) (w : World) : Calls Try.prog 17 #[.string (bs B), .string (bs K)] w fun e w' => e = .returned (.string (bs (Ur.join B K))) ∧ w' = w := by
  have a1 : ∀ v : World, (Op.stringOp .add ⟨#[47]⟩ (bs B)).run Try.prog v = .ok (.string (bs (47 :: B))) v := fun v => by rw [show (⟨#[47]⟩ : ByteArray) = bs [47] by rw [← bs_eq]]; exact add_any [47] B (by simp; omega) v
  by_cases hK : K = []
  · subst hK
    rw [Ur.join, if_pos rfl, ← bs_nil]
    generalize bs (47 :: B) = x at *
    generalize bs B = b at *
    go_enter Try.func17, Try.ntmps17
    go_wp2_with fail
    go_ret
    exact ⟨rfl, rfl⟩
  · have a2 : ∀ v : World, (Op.stringOp .add (bs (47 :: B)) ⟨#[47]⟩).run Try.prog v = .ok (.string (bs (47 :: B ++ [47]))) v := fun v => by rw [show (⟨#[47]⟩ : ByteArray) = bs [47] by rw [← bs_eq]]; exact add_any (47 :: B) [47] (by simp; omega) v
    have a3 : ∀ v : World, (Op.stringOp .add (bs (47 :: B ++ [47])) (bs K)).run Try.prog v = .ok (.string (bs (47 :: B ++ [47] ++ K))) v := fun v => add_any _ _ (by simp; omega) v
    have q := bs_some hK
    rw [Ur.join, if_neg hK, show 47 :: (B ++ 47 :: K) = 47 :: B ++ [47] ++ K by simp]
    generalize bs (47 :: B ++ [47] ++ K) = z at *
    generalize bs (47 :: B ++ [47]) = y at *
    generalize bs (47 :: B) = x at *
    generalize bs B = b at *
    generalize bs K = k at *
    go_enter Try.func17, Try.ntmps17
    go_wp2_with fail
    go_ret
    exact ⟨rfl, rfl⟩
set_option maxHeartbeats 1000000 in
theorem vJoin_any (B K : List UInt8) (hB : B.length + K.length ≤ 562949953421312) (w : World) : Calls Try.prog 24 #[.string (bs B), .string (bs K)] w fun e w' => e = .returned (.string (bs (Ur.join B K))) ∧ w' = w := by
  have a1 : ∀ v : World, (Op.stringOp .add ⟨#[47]⟩ (bs B)).run Try.prog v = .ok (.string (bs (47 :: B))) v := fun v => by rw [show (⟨#[47]⟩ : ByteArray) = bs [47] by rw [← bs_eq]]; exact add_any [47] B (by simp; omega) v
  by_cases hK : K = []
  · subst hK
    rw [Ur.join, if_pos rfl, ← bs_nil]
    generalize bs (47 :: B) = x at *
    generalize bs B = b at *
    go_enter Try.func24, Try.ntmps24
    go_wp2_with fail
    go_ret
    exact ⟨rfl, rfl⟩
  · have a2 : ∀ v : World, (Op.stringOp .add (bs (47 :: B)) ⟨#[47]⟩).run Try.prog v = .ok (.string (bs (47 :: B ++ [47]))) v := fun v => by rw [show (⟨#[47]⟩ : ByteArray) = bs [47] by rw [← bs_eq]]; exact add_any (47 :: B) [47] (by simp; omega) v
    have a3 : ∀ v : World, (Op.stringOp .add (bs (47 :: B ++ [47])) (bs K)).run Try.prog v = .ok (.string (bs (47 :: B ++ [47] ++ K))) v := fun v => add_any _ _ (by simp; omega) v
    have q := bs_some hK
    rw [Ur.join, if_neg hK, show 47 :: (B ++ 47 :: K) = 47 :: B ++ [47] ++ K by simp]
    generalize bs (47 :: B ++ [47] ++ K) = z at *
    generalize bs (47 :: B ++ [47]) = y at *
    generalize bs (47 :: B) = x at *
    generalize bs B = b at *
    generalize bs K = k at *
    go_enter Try.func24, Try.ntmps24
    go_wp2_with fail
    go_ret
    exact ⟨rfl, rfl⟩
end Go.Proofs.Ytiodbkloecpdcaa
