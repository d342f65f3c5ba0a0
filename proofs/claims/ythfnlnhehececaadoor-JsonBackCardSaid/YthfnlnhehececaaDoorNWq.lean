/- The program's writer: a text in quotes. -/
import Derived.Test.YthfnlnhehececaaDoorNInq
namespace Go.Proofs.YthfnlnhehececaaDoor
open Go Go.RowKit

def Js.wq (t : List UInt8) : List UInt8 := 34 :: (t.flatMap Js.ec ++ [34])
theorem ec_len (c : UInt8) : (Js.ec c).length ≤ 6 := by
  unfold Js.ec
  split
  · simp
  split
  · simp
  split
  · simp
  split
  · simp
  split
  · simp
  split
  · simp
  · simp
theorem wq_len (t : List UInt8) : (Js.wq t).length = (t.flatMap Js.ec).length + 2 := by simp [Js.wq]
theorem flat_take (X : List UInt8) (j : Nat) : ((X.take j).flatMap Js.ec).length ≤ (X.flatMap Js.ec).length := by
  have h := congrArg (fun l => (l.flatMap Js.ec).length) (List.take_append_drop j X)
  simp only [List.flatMap_append, List.length_append] at h
  omega
theorem flat_next {X : List UInt8} {j : Nat} {c : UInt8} (h : X[j]? = some c) : (X.take (j + 1)).flatMap Js.ec = (X.take j).flatMap Js.ec ++ Js.ec c := by
  rw [List.take_add_one, h, List.flatMap_append]
  simp
theorem OutW.yes {lo wb : Nat} {T X : List UInt8} {w : World} {e : Ending} {w' : World} (h : T.length + X.length ≤ 8000) (k : OutW lo wb T X w e w') : e = .returned (.tuple #[]) ∧ Wr w' lo wb (T ++ X) ∧ Fr lo wb w w' := by
  unfold OutW at k; rwa [if_pos h] at k
theorem OutW.no {lo wb : Nat} {T X : List UInt8} {w : World} {e : Ending} {w' : World} (h : ¬ T.length + X.length ≤ 8000) (k : OutW lo wb T X w e w') : e = .panicked (rfc 56 0) ∧ Fr lo wb w w' := by
  unfold OutW at k; rwa [if_neg h] at k
theorem out_yes {lo wb : Nat} {T X : List UInt8} {w w' : World} (h : T.length + X.length ≤ 8000) (k : Wr w' lo wb (T ++ X)) (hk : Fr lo wb w w') : OutW lo wb T X w (.returned (.tuple #[])) w' := by
  unfold OutW; rw [if_pos h]; exact ⟨rfl, k, hk⟩
theorem out_no {lo wb : Nat} {T X : List UInt8} {w w' : World} (h : ¬ T.length + X.length ≤ 8000) (hk : Fr lo wb w w') : OutW lo wb T X w (.panicked (rfc 56 0)) w' := by
  unfold OutW; rw [if_neg h]; exact ⟨rfl, hk⟩
theorem bs34 : (⟨#[34]⟩ : ByteArray) = bs [34] := (bs_eq _)
theorem Wr.lo_ {w : World} {lo wb : Nat} {T : List UInt8} (h : Wr w lo wb T) : lo ≤ w.heap.size := by obtain ⟨_, _, _, _, h⟩ := h; exact h
theorem klo {lo wb : Nat} {w u v : World} (h : Fr lo wb w u) (hl : lo ≤ u.heap.size) (hb : Below u.heap.size u v) : Fr lo wb w v := h.trans (Fr.of_below hb hl)
attribute [local go_sem high] run_index_byte
set_option maxRecDepth 100000 in
set_option maxHeartbeats 4000000 in
theorem wquoted_any (lo wb : Nat) (T X : List UInt8) (hT : T.length ≤ 8000) (hX : X.length ≤ 140737488355328) (w : World) (hw : Wr w lo wb T) : Calls Tryd.prog 56 #[.pointer (some ⟨wb, 0, none⟩), .string (bs X)] w (OutW lo wb T (Js.wq X) w) := by
  have hss : (bs X).size = X.length := bs_size X
  have CA := Lib.hid (fun (T Y : List UInt8) (hT : T.length ≤ 8000) (hY : Y.length ≤ 6) u hu => wadd_any lo wb T Y hT (by omega) u hu)
  have HW := Lib.hid hw
  have HST := Lib.hid (fun i => show strAt (bs X) i = X.getD i 0 by rw [strAt_eq, bs_list])
  have CQ := Lib.hid (fun c u => inQuotes_any c u)
  by_cases h1 : T.length + 1 ≤ 8000
  · have C1 := Lib.hid ((CA.out T [34] hT (by simp) w hw).mono fun e w' h => OutW.yes (by simpa using h1) h)
    rw [← bs34] at C1
    have HLT := Lib.hid (by rw [List.length_append]; exact h1 : (T ++ [34]).length ≤ 8000)
    clear hw
    generalize bs X = s at *
    obtain ⟨N, hN⟩ : ∃ N, N = X.length := ⟨_, rfl⟩
    have HN := Lib.hid hN
    rw [← hN] at hss hX
    clear hN
    go_enter Tryd.func56, Tryd.ntmps56
    go_wp2_with (first | (go_at_call 55; refine C1.out.mono ?_; rintro e1 w1 ⟨rfl, hw1, hk1⟩; have W1 := Lib.hid hw1; have K1 := Lib.hid hk1; clear hw1 hk1 C1; go_frame))
    go_loopw [9] (fun iv wr => ∃ j : Nat, j ≤ N ∧ iv = .int .i64 j ∧ Hid (Wr wr lo wb (T ++ [34] ++ (X.take j).flatMap Js.ec)) ∧ Hid ((T ++ [34] ++ (X.take j).flatMap Js.ec).length ≤ 8000) ∧ Hid (Fr lo wb w wr)) (fun iv _ => N - (intOf iv).toNat)
    case atStart => exact ⟨0, by omega, rfl, Lib.hid (by simpa using W1.out), Lib.hid (by simpa using h1), K1⟩
    case round =>
      obtain ⟨j, hj, rfl, hwr, hle, hke⟩ := hrel
      by_cases hjN : j < N
      · obtain ⟨c, hc⟩ : ∃ c, X[j]? = some c := ⟨X[j]'(by rw [← HN.out]; exact hjN), List.getElem?_eq_getElem _⟩
        have hsc := HST.out j
        rw [List.getD, hc] at hsc
        have RI : ∀ v : World, (Instr.index 9 (.string s) (.int .i64 (j : Int))).run Tryd.prog v = .ok (.int .u8 (c.toNat : Int)) v := fun v => by
          rw [run_index_byte v 9 s .i64 j Tryd.underlying9 (by omega), hsc]; rfl
        have HNX := Lib.hid (flat_next hc)
        have hec := ec_len c
        have CQ1 := Lib.hid (CQ.out c wr)
        by_cases h2 : (T ++ [34] ++ (X.take j).flatMap Js.ec).length + (Js.ec c).length ≤ 8000
        · have C2 := Lib.hid (fun u (hu : Wr u lo wb _) => (CA.out _ (Js.ec c) hle.out hec u hu).mono fun e w' h => OutW.yes h2 h)
          clear hsc hc
          go_wp2_with (first | (go_at_call 77; refine CQ1.out.mono ?_; rintro e1 w2 ⟨rfl, hb2⟩; have W2 := Lib.hid (hwr.out.below hb2); have K2 := Lib.hid (klo hke.out hwr.out.lo_ hb2); clear hb2; go_frame) | (go_at_call 55; refine (C2.out w2 W2.out).mono ?_; rintro e1 w3 ⟨rfl, hw3, hk3⟩; go_frame))
          go_roundw
          case rel => exact ⟨j + 1, by omega, by go_num, Lib.hid (by rw [HNX.out, ← List.append_assoc]; exact hw3), Lib.hid (by rw [HNX.out, ← List.append_assoc, List.length_append]; exact h2), Lib.hid (K2.out.trans hk3)⟩
          case measure => simp [intOf]; omega
        · have C2 := Lib.hid (fun u (hu : Wr u lo wb _) => (CA.out _ (Js.ec c) hle.out hec u hu).mono fun e w' h => OutW.no h2 h)
          have HBAD := Lib.hid (show ¬ T.length + (Js.wq X).length ≤ 8000 by
            have := flat_take X (j + 1)
            rw [HNX.out] at this
            rw [wq_len]
            simp only [List.length_append, List.length_cons, List.length_nil] at h2 this ⊢
            omega)
          clear hsc hc
          go_wp2_with (first | (go_at_call 77; refine CQ1.out.mono ?_; rintro e1 w2 ⟨rfl, hb2⟩; have W2 := Lib.hid (hwr.out.below hb2); have K2 := Lib.hid (klo hke.out hwr.out.lo_ hb2); clear hb2; go_frame) | (go_at_call 55; refine (C2.out w2 W2.out).mono ?_; rintro e1 w3 ⟨rfl, hk3⟩; go_frame))
          exact ⟨rfl, out_no HBAD.out (K2.out.trans hk3)⟩
      · obtain rfl : j = N := by omega
        have HF := Lib.hid (show T ++ [34] ++ (X.take j).flatMap Js.ec = T ++ [34] ++ X.flatMap Js.ec by rw [List.take_of_length_le (by rw [← HN.out]; exact Nat.le_refl _)])
        rw [HF.out] at hwr hle
        by_cases h3 : (T ++ [34] ++ X.flatMap Js.ec).length + 1 ≤ 8000
        · have C3 := Lib.hid ((CA.out _ [34] hle.out (by simp) wr hwr.out).mono fun e w' h => OutW.yes (by simpa using h3) h)
          rw [← bs34] at C3
          have HOK := Lib.hid (show T.length + (Js.wq X).length ≤ 8000 by rw [wq_len]; simp only [List.length_append, List.length_cons, List.length_nil] at h3; omega)
          go_wp2_with (first | (go_at_call 55; refine C3.out.mono ?_; rintro e1 w3 ⟨rfl, hw3, hk3⟩; go_frame))
          refine normal_end rfl rfl (out_yes HOK.out ?_ (hke.out.trans hk3))
          rw [show T ++ Js.wq X = T ++ [34] ++ X.flatMap Js.ec ++ [34] by simp [Js.wq]]
          exact hw3
        · have C3 := Lib.hid ((CA.out _ [34] hle.out (by simp) wr hwr.out).mono fun e w' h => OutW.no (by simpa using h3) h)
          rw [← bs34] at C3
          have HBAD := Lib.hid (show ¬ T.length + (Js.wq X).length ≤ 8000 by rw [wq_len]; simp only [List.length_append, List.length_cons, List.length_nil] at h3; omega)
          go_wp2_with (first | (go_at_call 55; refine C3.out.mono ?_; rintro e1 w3 ⟨rfl, hk3⟩; go_frame))
          exact ⟨rfl, out_no HBAD.out (hke.out.trans hk3)⟩
  · have C1 := Lib.hid ((CA.out T [34] hT (by simp) w hw).mono fun e w' h => OutW.no (by simpa using h1) h)
    rw [← bs34] at C1
    have HBAD := Lib.hid (show ¬ T.length + (Js.wq X).length ≤ 8000 by rw [wq_len]; omega)
    clear hw
    generalize bs X = s at *
    go_enter Tryd.func56, Tryd.ntmps56
    go_wp2_with (first | (go_at_call 55; refine C1.out.mono ?_; rintro e1 w1 ⟨rfl, hk1⟩; go_frame))
    exact ⟨rfl, out_no HBAD.out hk1⟩
end Go.Proofs.YthfnlnhehececaaDoor
