/- The walks of three laws: names, buckets, escapes. -/
import Derived.Test.YtiodbkloecpdcaaUEx2
import Derived.Test.YtiodbkloecpdcaaURef4
namespace Go.Proofs.Ytiodbkloecpdcaa

namespace Ur
theorem all_mem {S : List UInt8} {p : UInt8 → Bool} (h : S.all p = true) (c : UInt8) (hc : c ∈ S) : p c = true := List.all_eq_true.1 h c hc
theorem enc_self (p : UInt8 → Bool) (S : List UInt8) (h : ∀ c ∈ S, p c = true) : enc p S = S := by
  induction S with
  | nil => rfl
  | cons c r ih => rw [enc, encB, if_pos (h c (by simp)), ih (fun d hd => h d (by simp [hd]))]; rfl
theorem ofName_fre (c : UInt8) (h : ofName c = true) : fre c = true ∧ c ≠ 47 := by
  simp only [ofName, firm, c45, c46, Bool.or_eq_true, decide_eq_true_eq] at h
  constructor
  · simp only [fre, c45, c46, c95, c126, Bool.or_eq_true, decide_eq_true_eq]
    rcases h with ((h | h) | h) | h
    · simp [h]
    · simp [h]
    · simp [h]
    · simp [h]
  · intro e
    subst e
    revert h
    decide
structure Named (S : List UInt8) : Prop where
  l1 : 3 ≤ S.length
  l2 : S.length ≤ 63
  all : ∀ c ∈ S, ofName c = true
  first : firm (S.getD 0 0) = true
theorem named (S : List UInt8) (h : bkt S = true) : Named S := by
  unfold bkt ends at h
  simp only [Bool.and_eq_true, decide_eq_true_eq] at h
  exact ⟨h.1.1.1.1.1, h.1.1.1.1.2, fun c hc => all_mem h.1.1.1.2 c hc, h.1.1.2.1⟩
theorem len_none (S : List UInt8) (d : UInt8) (h : ∀ c ∈ S, c ≠ d) : len (· == d) S = S.length := by
  refine len_miss _ _ (fun k hk => ?_)
  rw [List.getD, List.getElem?_eq_getElem hk]
  exact beq_eq_false_iff_ne.2 (h _ (List.getElem_mem hk))
theorem split_named (S : List UInt8) (h : Named S) : bucketOf (47 :: S) = S ∧ keyOf (47 :: S) = [] := by
  have hl := len_none S 47 (fun c hc => (ofName_fre c (h.all c hc)).2)
  unfold bucketOf keyOf
  simp only [List.head?_cons, if_true, List.drop_succ_cons, List.drop_zero, hl, List.take_length]
  exact ⟨trivial, List.drop_eq_nil_of_le (by omega)⟩
end Ur

open Go.RowKit
attribute [local go_sem high] run_index_byte
set_option maxRecDepth 100000 in
set_option maxHeartbeats 4000000 in
theorem Names_true (S T : List UInt8) (hS : S.length ≤ 140737488355328) (hT : T.length ≤ 140737488355328) (w : World) (hm : Mx w) : Calls Try.prog 9 #[.string (bs S), .string (bs T)] w fun e w' => e = .returned (.bool true) ∧ Below w.heap.size w w' := by
  have X := Lib.hid (fun v hm => examples_true v hm)
  have S1 := Lib.hid (fun v : World => Split_any S hS v)
  have S2 := Lib.hid (fun v : World => vSplit_any S hS v)
  have J1 := Lib.hid (fun v : World => uJoin_any S T (by omega) v)
  have J2 := Lib.hid (fun v : World => vJoin_any S T (by omega) v)
  have B1 := Lib.hid (fun v hm => Bucket_any S v hm (by omega))
  have B2 := Lib.hid (fun v : World => vBucket_any S (by omega) v)
  have HM := Lib.hid hm
  have HB := Lib.hid (Below.refl w.heap.size w)
  generalize bs (Ur.bucketOf S) = x1 at *
  generalize bs (Ur.keyOf S) = x2 at *
  generalize bs (Ur.join S T) = x3 at *
  generalize Ur.bkt S = b at *
  generalize bs S = s at *
  generalize bs T = t at *
  clear hm
  go_enter Try.func9, Try.ntmps9
  go_wp2_with (first | (go_at_call 10; refine (X.out _ HM.out).mono ?_; rintro e w1 ⟨rfl, hb1⟩; replace HB := Lib.hid (bthen HB.out hb1); replace HM := Lib.hid (HM.out.below hb1); clear hb1) | (go_at_call 16; refine (S1.out _).mono ?_; rintro e w2 ⟨rfl, hb2⟩; replace HB := Lib.hid (bthen HB.out hb2); replace HM := Lib.hid (HM.out.below hb2); clear hb2) | (go_at_call 23; refine (S2.out _).mono ?_; rintro e w3 ⟨rfl, hb3⟩; replace HB := Lib.hid (bthen HB.out hb3); replace HM := Lib.hid (HM.out.below hb3); clear hb3) | (go_at_call 17; refine (J1.out _).mono ?_; rintro e w4 ⟨rfl, hw⟩; obtain rfl := hw.symm; clear hw) | (go_at_call 24; refine (J2.out _).mono ?_; rintro e w4 ⟨rfl, hw⟩; obtain rfl := hw.symm; clear hw) | (go_at_call 15; refine (B1.out _ HM.out).mono ?_; rintro e w5 ⟨rfl, hb5⟩; replace HB := Lib.hid (bthen HB.out hb5); clear hb5) | (go_at_call 25; refine (B2.out _).mono ?_; rintro e w6 ⟨rfl, hw⟩; obtain rfl := hw.symm; clear hw))
  go_ret
  exact ⟨by simp, HB.out⟩
set_option maxRecDepth 100000 in
set_option maxHeartbeats 4000000 in
theorem Buckets_true (S : List UInt8) (hS : S.length ≤ 140737488355328) (w : World) (hm : Mx w) : Calls Try.prog 5 #[.string (bs S)] w fun e w' => e = .returned (.bool true) ∧ Below w.heap.size w w' := by
  have X := Lib.hid (fun v hm => examples_true v hm)
  have B1 := Lib.hid (fun v hm => Bucket_any S v hm (by omega))
  have HM := Lib.hid hm
  have HB := Lib.hid (Below.refl w.heap.size w)
  by_cases hb : Ur.bkt S = true
  · rw [hb] at B1
    have hN := Ur.named S hb
    have hsp := Ur.split_named S hN
    have S1 := Lib.hid (fun v : World => Split_any (47 :: S) (by have := hN.l2; simp; omega) v)
    rw [hsp.1, hsp.2] at S1
    have hself := Ur.enc_self Ur.fre S (fun c hc => (Ur.ofName_fre c (hN.all c hc)).1)
    have E1 := Lib.hid (fun v : World => Encode_fre S (by have := hN.l2; omega) v)
    rw [hself] at E1
    have a1 : ∀ v : World, (Op.stringOp .add ⟨#[47]⟩ (bs S)).run Try.prog v = .ok (.string (bs (47 :: S))) v := fun v => by rw [show (⟨#[47]⟩ : ByteArray) = bs [47] by rw [← bs_eq]]; exact add_any [47] S (by simp; omega) v
    have l1 := hN.l1
    have l2 := hN.l2
    have q0 := bs_none
    have hf := hN.first
    obtain ⟨s, hs⟩ : ∃ s, s = bs S := ⟨_, rfl⟩
    have hss : s.size = S.length := by rw [hs, bs_size]
    have RI : ∀ v : World, (Instr.index 9 (.string s) (.int .i64 0)).run Try.prog v = .ok (.int .u8 ((strAt s 0).toNat : Int)) v := fun v => run_index_byte v _ _ _ 0 Try.underlying9 (by omega)
    have e0 : S.getD 0 0 = strAt s 0 := by rw [hs]; exact (strAt_bs S 0).symm
    rw [e0] at hf
    generalize strAt s 0 = c at *
    have n45 : ((c.toNat : Int) != 45) = true := by
      have : c.toNat ≠ 45 := fun h => by rw [Ur.firm_45 c (.inl h)] at hf; cases hf
      simp; omega
    have n46 : ((c.toNat : Int) != 46) = true := by
      have : c.toNat ≠ 46 := fun h => by rw [Ur.firm_45 c (.inr h)] at hf; cases hf
      simp; omega
    rw [← hs] at S1 E1 B1 a1 ⊢
    clear hs hsp hself hN hb hf e0 hm
    generalize bs (47 :: S) = y at *
    generalize bs [] = z at *
    go_enter Try.func5, Try.ntmps5
    go_wp2_with (first | (go_at_call 10; refine (X.out _ HM.out).mono ?_; rintro e w1 ⟨rfl, hb1⟩; replace HB := Lib.hid (bthen HB.out hb1); replace HM := Lib.hid (HM.out.below hb1); clear hb1) | (go_at_call 15; refine (B1.out _ HM.out).mono ?_; rintro e w5 ⟨rfl, hb5⟩; replace HB := Lib.hid (bthen HB.out hb5); clear hb5) | (go_at_call 16; refine (S1.out _).mono ?_; rintro e w2 ⟨rfl, hb2⟩; replace HB := Lib.hid (bthen HB.out hb2); clear hb2) | (go_at_call 12; refine (E1.out _).mono ?_; rintro e w3 ⟨rfl, hb3⟩; replace HB := Lib.hid (bthen HB.out hb3); clear hb3))
    go_ret
    exact ⟨rfl, HB.out⟩
  · have hb' : Ur.bkt S = false := by simpa using hb
    rw [hb'] at B1
    generalize bs S = s at *
    clear hb hb' hm
    go_enter Try.func5, Try.ntmps5
    go_wp2_with (first | (go_at_call 10; refine (X.out _ HM.out).mono ?_; rintro e w1 ⟨rfl, hb1⟩; replace HB := Lib.hid (bthen HB.out hb1); replace HM := Lib.hid (HM.out.below hb1); clear hb1) | (go_at_call 15; refine (B1.out _ HM.out).mono ?_; rintro e w5 ⟨rfl, hb5⟩; replace HB := Lib.hid (bthen HB.out hb5); clear hb5))
    go_ret
    exact ⟨rfl, HB.out⟩
set_option maxRecDepth 100000 in
set_option maxHeartbeats 4000000 in
theorem Escapes_true (S : List UInt8) (hS : S.length ≤ 35184372088832) (w : World) (hm : Mx w) : Calls Try.prog 6 #[.string (bs S)] w fun e w' => e = .returned (.bool true) ∧ Below w.heap.size w w' := by
  have X := Lib.hid (fun v hm => examples_true v hm)
  have D1 := Lib.hid (fun v : World => Decode_any S (by omega) v)
  have D2 := Lib.hid (fun v : World => vDecode_any S (by omega) v)
  have E1 := Lib.hid (fun v : World => Encode_any S hS true v)
  have E2 := Lib.hid (fun v : World => Encode_any S hS false v)
  have F1 := Lib.hid (fun v : World => vEncode_any S hS true v)
  have F2 := Lib.hid (fun v : World => vEncode_any S hS false v)
  simp only [if_true, Bool.false_eq_true, if_false] at E1 E2 F1 F2
  have HM := Lib.hid hm
  have HB := Lib.hid (Below.refl w.heap.size w)
  generalize bs (Ur.enc Ur.fre S) = x1 at *
  generalize bs (Ur.enc Ur.freP S) = x2 at *
  clear hm
  cases hR : Ur.dec 0 S with
  | ok l =>
    rw [hR] at D1 D2
    simp only [toldV, toldR] at D1 D2
    clear hR
    generalize bs l = y at *
    generalize bs S = s at *
    obtain ⟨M1, hM1⟩ : ∃ m : Int, m = -1 := ⟨_, rfl⟩
    rw [← hM1] at D2
    have k1 : ¬ 0 ≤ M1 := by omega
    have k2 : M1 < 0 := by omega
    have k3 : decide (0 ≤ M1) = false := decide_eq_false k1
    clear hM1
    go_enter Try.func6, Try.ntmps6
    go_wp2_with (first | (go_at_call 10; refine (X.out _ HM.out).mono ?_; rintro e w1 ⟨rfl, hb1⟩; replace HB := Lib.hid (bthen HB.out hb1); clear hb1) | (go_at_call 11; refine (D1.out _).mono ?_; rintro e w2 ⟨rfl, hb2⟩; replace HB := Lib.hid (bthen HB.out hb2); clear hb2) | (go_at_call 18; refine (D2.out _).mono ?_; rintro e w3 ⟨rfl, hb3⟩; replace HB := Lib.hid (bthen HB.out hb3); clear hb3) | (go_at_call 12; first | ((with_reducible refine (E1.out _).mono ?_); rintro e w4 ⟨rfl, hb4⟩; replace HB := Lib.hid (bthen HB.out hb4); clear hb4) | ((with_reducible refine (E2.out _).mono ?_); rintro e w5 ⟨rfl, hb5⟩; replace HB := Lib.hid (bthen HB.out hb5); clear hb5)) | (go_at_call 19; first | ((with_reducible refine (F1.out _).mono ?_); rintro e w6 ⟨rfl, hb6⟩; replace HB := Lib.hid (bthen HB.out hb6); clear hb6) | ((with_reducible refine (F2.out _).mono ?_); rintro e w7 ⟨rfl, hb7⟩; replace HB := Lib.hid (bthen HB.out hb7); clear hb7)))
    go_ret
    exact ⟨by first | rfl | simp, HB.out⟩
  | bad k =>
    rw [hR] at D1 D2
    simp only [toldV, toldR, Nat.zero_add] at D1 D2
    clear hR
    have q0 := bs_none
    generalize bs [] = y at *
    generalize bs S = s at *
    go_enter Try.func6, Try.ntmps6
    go_wp2_with (first | (go_at_call 10; refine (X.out _ HM.out).mono ?_; rintro e w1 ⟨rfl, hb1⟩; replace HB := Lib.hid (bthen HB.out hb1); clear hb1) | (go_at_call 11; refine (D1.out _).mono ?_; rintro e w2 ⟨rfl, hb2⟩; replace HB := Lib.hid (bthen HB.out hb2); clear hb2) | (go_at_call 18; refine (D2.out _).mono ?_; rintro e w3 ⟨rfl, hb3⟩; replace HB := Lib.hid (bthen HB.out hb3); clear hb3) | (go_at_call 12; first | ((with_reducible refine (E1.out _).mono ?_); rintro e w4 ⟨rfl, hb4⟩; replace HB := Lib.hid (bthen HB.out hb4); clear hb4) | ((with_reducible refine (E2.out _).mono ?_); rintro e w5 ⟨rfl, hb5⟩; replace HB := Lib.hid (bthen HB.out hb5); clear hb5)) | (go_at_call 19; first | ((with_reducible refine (F1.out _).mono ?_); rintro e w6 ⟨rfl, hb6⟩; replace HB := Lib.hid (bthen HB.out hb6); clear hb6) | ((with_reducible refine (F2.out _).mono ?_); rintro e w7 ⟨rfl, hb7⟩; replace HB := Lib.hid (bthen HB.out hb7); clear hb7)))
    go_ret
    exact ⟨by first | rfl | simp, HB.out⟩
end Go.Proofs.Ytiodbkloecpdcaa
