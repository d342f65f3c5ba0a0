/- The program reads a moment. -/
import Derived.Test.YtllboegemooeoaaYRead
namespace Go.Proofs.Ytllboegemooeoaa
open Go.RowKit

theorem bs_ne {a b : List UInt8} (h : a ≠ b) : ((bs a).toList == (bs b).toList) = false := by
  rw [ByteArray.toList_eq, ByteArray.toList_eq, bs_list, bs_list]
  exact beq_eq_false_iff_ne.2 h
attribute [local go_sem high] lit_dn2 lit_mn2
set_option maxRecDepth 100000 in
set_option maxHeartbeats 1000000 in
theorem monthOf_name (F S x : List UInt8) (hk : Lib.indexByte F 110 = 8) (hx : (S.drop 8).take 3 = x) (hl : 11 ≤ S.length) (r : Nat) (hr : (∃ i, i < 12 ∧ Mo.nm Mo.mnm i = x ∧ r = i + 1) ∨ (∀ i, i < 12 → Mo.nm Mo.mnm i ≠ x) ∧ r = 0) (w : World) : Calls Try.prog 38 #[.string (bs F), .string (bs S)] w fun e w' => e = .returned (.int .i64 r) ∧ Below w.heap.size w w' := by
  have H1 := Lib.hid (fun v : World => (indexN F 8 hk v).mono (R' := fun r w' => r = .returned (.int .i64 8) ∧ v = w') (fun _ _ h => ⟨h.1, h.2.symm⟩))
  have H2 := Lib.hid (fun (j : Nat) (hj : j < 12) (v : World) => yname_m j hj v)
  have HSL : ∀ v : World, (Instr.slice 9 (.string (bs S)) (some (.int .i64 8)) (some (.int .i64 11)) none).run Try.prog v = .ok (.string (bs x)) v := fun v => by
    have := run_mid_string (P := Try.prog) v 9 (bs S) .i64 .i64 8 11 Try.underlying9 (by omega) (by rw [bs_size]; exact hl)
    rw [show ((8 : Int)) = ((8 : Nat) : Int) by omega, show ((11 : Int)) = ((11 : Nat) : Int) by omega, this]
    congr 2
    exact bs_of (by rw [extract_list, bs_list, ← hx, List.drop_take])
  have HR := Lib.hid hr
  clear hk hx hl hr
  obtain ⟨s, hs⟩ : ∃ s, s = bs S := ⟨_, rfl⟩
  rw [← hs] at HSL ⊢
  clear hs
  go_enter Try.func38, Try.ntmps38
  go_wp2_with (first | (go_at_call 45; refine (H1.out _).mono ?_; rintro e w' ⟨rfl, rfl⟩))
  go_loopw [14] (fun iv wr => ∃ j : Nat, j ≤ 12 ∧ iv = .int .i64 j ∧ Hid (∀ i, i < j → Mo.nm Mo.mnm i ≠ x) ∧ Hid (Below w.heap.size w wr)) (fun iv _ => 12 - (intOf iv).toNat)
  case atStart => exact ⟨0, by omega, rfl, Lib.hid (fun i hi => by omega), Lib.hid (Below.refl _ _)⟩
  case round =>
    obtain ⟨j, hj, rfl, hno, hb⟩ := hrel
    by_cases hlt : j < 12
    · have hc := H2.out j hlt
      obtain ⟨A, hA⟩ : ∃ A, A = Mo.nm Mo.mnm j := ⟨_, rfl⟩
      rw [← hA] at hc
      have HC := Lib.hid hc
      clear hc
      by_cases he : A = x
      · have hrj : r = j + 1 := by
          rcases HR.out with ⟨i, hi, h1, h2⟩ | ⟨h1, _⟩
          · have := Mo.nm_apart i hi j hlt (by rw [h1, ← hA, he])
            omega
          · exact absurd (by rw [← hA]; exact he) (h1 j hlt)
        subst he
        subst hrj
        clear hA
        go_wp2_with fail
        go_quiet (first | (go_at_call 44; exact Calls.quiet_of_same (HC.out _)))
        go_wp2
        go_ret
        exact ⟨rfl, below_drewN hb.out _⟩
      · have q := bs_ne he
        have HE := Lib.hid he
        have HA := Lib.hid hA
        clear he hA
        go_wp2_with fail
        go_quiet (first | (go_at_call 44; exact Calls.quiet_of_same (HC.out _)))
        go_wp2_with fail
        go_roundw
        case rel =>
          refine ⟨j + 1, by omega, by go_num, Lib.hid (fun i hi => ?_), Lib.hid (below_drewN hb.out _)⟩
          by_cases hij : i = j
          · rw [hij, ← HA.out]; exact HE.out
          · exact hno.out i (by omega)
        case measure => simp [intOf]; omega
    · obtain rfl : j = 12 := by omega
      have hr0 : r = 0 := by
        rcases HR.out with ⟨i, hi, h1, h2⟩ | ⟨_, h2⟩
        · exact absurd h1 (hno.out i hi)
        · exact h2
      subst hr0
      go_wp2_with fail
      go_ret
      exact ⟨rfl, hb.out⟩
/-- What is asked of a form, to be read by. -/
structure Frm (F : List UInt8) (mo : List UInt8 → Nat) : Prop where
  l1 : 1 ≤ F.length
  l2 : F.length ≤ 100
  tx : ∀ t, (Mo.tx F t).length = F.length
  cy : F.count 121 ≤ 4
  cd : F.count 100 ≤ 4
  ch : F.count 104 ≤ 4
  ci : F.count 105 ≤ 4
  cs : F.count 115 ≤ 4
  mc : ∀ S, S.length = F.length → ∀ w, Calls Try.prog 38 #[.string (bs F), .string (bs S)] w fun e w' => e = .returned (.int .i64 (mo S)) ∧ Below w.heap.size w w'
  parts : ∀ t, t < 253402300800 → Mo.Parts t (Mo.nums 121 F (Mo.tx F t) 0) (mo (Mo.tx F t)) (Mo.nums 100 F (Mo.tx F t) 0) (Mo.nums 104 F (Mo.tx F t) 0) (Mo.nums 105 F (Mo.tx F t) 0) (Mo.nums 115 F (Mo.tx F t) 0)
theorem Frm.num {F : List UInt8} {mo : List UInt8 → Nat} (h : Frm F mo) (S : List UInt8) (hl : S.length = F.length) (c : UInt8) (k : Int) (hk : k = c.toNat) (hc : F.count c ≤ 4) (v : World) : Calls Try.prog 37 #[.string (bs F), .string (bs S), .int .u8 k] v fun e w' => e = .returned (.int .i64 (Mo.nums c F S 0)) ∧ v = w' := by
  rw [hk]; exact numberOf_any F S hl.symm h.l2 c hc v
theorem Frm.inj {F : List UInt8} {mo : List UInt8 → Nat} (h : Frm F mo) {t u : Nat} (ht : t < 253402300800) (hu : u < 253402300800) (e : Mo.tx F t = Mo.tx F u) : t = u := by
  have h1 := ((h.parts t ht).back ht).2
  have h2 := ((h.parts u hu).back hu).2
  rw [e, h2] at h1
  exact h1.symm
set_option maxRecDepth 100000 in
set_option maxHeartbeats 1000000 in
theorem read_long {F : List UInt8} (S : List UInt8) (hl : S.length ≠ F.length) (w : World) : Calls Try.prog 27 #[.string (bs F), .string (bs S)] w fun e w' => e = .returned (.tuple #[.int .i64 0, .int .i64 51]) ∧ Below w.heap.size w w' := by
  have q : (((bs S).size : Int) != ((bs F).size : Int)) = true := by rw [bs_size, bs_size]; simp; omega
  go_enter Try.func27, Try.ntmps27
  go_wp2_with fail
  go_ret2
  exact ⟨rfl, Below.refl _ _⟩
set_option maxRecDepth 100000 in
set_option maxHeartbeats 1000000 in
theorem read_bad {F : List UInt8} {mo : List UInt8 → Nat} (h : Frm F mo) (S : List UInt8) (hl : S.length = F.length) (hd : BadD (Mo.nums 121 F S 0 : Nat) (mo S : Nat) (Mo.nums 100 F S 0 : Nat)) (w : World) : Calls Try.prog 27 #[.string (bs F), .string (bs S)] w fun e w' => e = .returned (.tuple #[.int .i64 0, .int .i64 51]) ∧ Below w.heap.size w w' := by
  have q : (((bs S).size : Int) != ((bs F).size : Int)) = false := by rw [bs_size, bs_size, hl]; simp
  have C1 := Lib.hid (fun v : World => h.num S hl 121 121 rfl h.cy v)
  have C2 := Lib.hid (fun v : World => h.mc S hl v)
  have C3 := Lib.hid (fun v : World => h.num S hl 100 100 rfl h.cd v)
  have C4 := Lib.hid (fun v : World => From_no _ _ _ hd v)
  clear hd hl h
  generalize Mo.nums 121 F S 0 = y at *
  generalize Mo.nums 100 F S 0 = d at *
  generalize mo S = m at *
  go_enter Try.func27, Try.ntmps27
  go_wp2_with (first | (go_at_call 37; first | ((with_reducible refine (C1.out _).mono ?_); rintro e w' ⟨rfl, rfl⟩) | ((with_reducible refine (C3.out _).mono ?_); rintro e w' ⟨rfl, rfl⟩)) | (go_at_call 38; refine (C2.out _).mono ?_; rintro e w2 ⟨rfl, hb2⟩) | (go_at_call 16; refine (C4.out _).mono ?_; rintro e w' ⟨rfl, rfl⟩))
  go_ret2
  exact ⟨rfl, hb2⟩
end Go.Proofs.Ytllboegemooeoaa
