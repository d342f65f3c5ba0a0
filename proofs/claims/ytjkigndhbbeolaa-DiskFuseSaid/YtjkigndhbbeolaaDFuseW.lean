/- The walk of the statement DiskFuse, its own text. -/
import Derived.Test.YtjkigndhbbeolaaDFuse
import Derived.Test.YtjkigndhbbeolaaDKnown
namespace Go.Proofs.Ytjkigndhbbeolaa
open Go.RowKit

theorem Duo.toldGone {w0 w : World} {p d e : Nat} {gone : Bool} {fuse acts : Int} {m : Nat} (h : Duo w0 p d e gone fuse acts m w) : Calls Try.prog 29 #[.pointer (some ⟨p, 0, none⟩)] w fun e' w' => e' = .returned (.bool gone) ∧ w = w' := Gone_any p gone fuse acts w h.pow
theorem Duo.toldActs {w0 w : World} {p d e : Nat} {gone : Bool} {fuse acts : Int} {m : Nat} (h : Duo w0 p d e gone fuse acts m w) : Calls Try.prog 31 #[.pointer (some ⟨p, 0, none⟩)] w fun e' w' => e' = .returned (.int .i64 acts) ∧ w = w' := Acts_any p gone fuse acts w h.pow
theorem Duo.on {w0 w : World} {p d e : Nat} {gone : Bool} {fuse acts : Int} {m : Nat} (h : Duo w0 p d e gone fuse acts m w) : Calls Try.prog 32 #[.pointer (some ⟨p, 0, none⟩)] w fun e' w' => e' = .returned (.tuple #[]) ∧ Duo w0 p d e false (-1) acts m w' :=
  (On_any p gone fuse acts w h.pow).mono fun _ _ ⟨he, hp, hk⟩ => ⟨he, h.power hp hk⟩
/-- What stands ahead of the j-th act. -/
def FuseAt (w0 : World) (p d e A j : Nat) (dn : Value) (w : World) : Prop :=
  (j < A ∧ dn = .int .i64 j ∧ Duo w0 p d e false ((A - j : Nat) : Int) (j : Nat) j w) ∨ (A ≤ j ∧ dn = .int .i64 A ∧ ∃ gone, Duo w0 p d e gone 0 (A : Nat) j w)
theorem fuse_next {w0 : World} {p d e A j : Nat} {w : World} (hj : j < A) (h : Duo w0 p d e false (less ((A - j : Nat) : Int)) ((j : Nat) + 1) (j + 1) w) : FuseAt w0 p d e A (j + 1) (.int .i64 ((j : Int) + 1)) w := by
  have e1 : less ((A - j : Nat) : Int) = ((A - (j + 1) : Nat) : Int) := by rw [less, if_pos (by omega)]; omega
  rw [e1, show ((j : Nat) : Int) + 1 = ((j + 1 : Nat) : Int) from by omega] at h
  by_cases hA : j + 1 < A
  · exact Or.inl ⟨hA, by go_num, h⟩
  · have e2 : A = j + 1 := by omega
    have e3 : A - (j + 1) = 0 := by omega
    rw [e3] at h
    exact Or.inr ⟨by omega, by rw [e2]; go_num, false, by rw [e2]; exact h⟩
set_option maxRecDepth 100000 in
set_option maxHeartbeats 4000000 in
theorem Fuse_walk (a0 t0 : Int) (h1 : -9223372036854775808 ≤ a0) (h2 : a0 ≤ 9223372036854775807) (h3 : -9223372036854775808 ≤ t0) (h4 : t0 ≤ 9223372036854775807) (w : World) :
    Calls Try.prog 7 #[.int .i64 a0, .int .i64 t0] w fun e w' => e = .returned (.bool true) ∧ Below w.heap.size w w' := by
  obtain ⟨A, hA⟩ : ∃ A, A = pickN a0 60 := ⟨_, rfl⟩
  obtain ⟨T, hT⟩ : ∃ T, T = pickN t0 80 := ⟨_, rfl⟩
  have hA60 : A < 60 := by rw [hA]; exact pickN_lt _ 60 (by omega)
  have hT80 : T < 80 := by rw [hT]; exact pickN_lt _ 80 (by omega)
  obtain ⟨qx, hqx⟩ := list_of (Dk.sector [120])
  obtain ⟨qy, hqy⟩ := list_of (Dk.sector [121])
  obtain ⟨qz, hqz⟩ := list_of (Dk.sector [122])
  have hx64 : qx.size = 64 := by rw [← size_toList, hqx, Dk.length_sector]
  have hy64 : qy.size = 64 := by rw [← size_toList, hqy, Dk.length_sector]
  have hz64 : qz.size = 64 := by rw [← size_toList, hqz, Dk.length_sector]
  have HA := Lib.hid hA
  have HT := Lib.hid hT
  have HX := Lib.hid hqx
  have HY := Lib.hid hqy
  have HZ := Lib.hid hqz
  have HX64 := Lib.hid hx64
  have HY64 := Lib.hid hy64
  have HZ64 := Lib.hid hz64
  clear hA hT hqx hqy hqz hx64 hy64 hz64
  go_enter Try.func7, Try.ntmps7
  go_wp2_with fail
  refine (known_true _).mono ?_
  rintro e w1 ⟨rfl, hb1⟩
  have B1 := Lib.hid hb1
  clear hb1
  go_wp2_with fail
  refine (rack_ok _).mono ?_
  rintro e w2 ⟨p, d, F, rfl, hP, hL, hF, hp, hb2⟩
  have P2 := Lib.hid hP
  have L2 := Lib.hid hL
  have F2 := Lib.hid (fun x (hx : x ∈ F) => Nat.le_trans B1.out.size (hF x hx))
  have G2 := Lib.hid (Nat.le_trans B1.out.size hp)
  have B2 := Lib.hid (B1.out.trans (hb2.mono B1.out.size))
  clear hP hL hF hp hb2 B1
  go_wp2_with fail
  refine (New_ok p false (-1) 0 3 (by omega) (by omega) _ P2.out).mono ?_
  rintro e w3 ⟨d2, F', rfl, hL3, hF3, hb3⟩
  have D3 : Hid (Duo w p d d2 false (-1) 0 0 w3) := Lib.hid (by
    refine ⟨P2.out.keep (hb3.block p P2.out.lt), ⟨F, F', _, [], _, [], L2.out.below hb3, hL3, fun x hx hx2 => ?_, Nat.le_refl _, Nat.le_refl _, F2.out, fun x hx => Nat.le_trans B2.out.size (hF3 x hx)⟩, B2.out.trans (hb3.mono B2.out.size), G2.out⟩
    have := hF3 x hx2
    have := L2.out.lts.2 x hx
    omega)
  clear hL3 hF3 hb3 P2 L2 F2 G2 B2
  go_wp2_with fail
  refine (pick_any a0 60 (by omega) (by omega) h1 h2 _).mono ?_
  rintro e w4 ⟨rfl, rfl⟩
  rw [← HA.out]
  go_wp2_with fail
  refine (Fuse_any p false (-1) 0 A _ D3.out.pow).mono ?_
  rintro e w4 ⟨rfl, hp4, hk4⟩
  have D4 := Lib.hid (D3.out.power hp4 hk4)
  clear hp4 hk4 D3
  go_wp2_with fail
  go_loopw [10, 11] (fun dn i wr => ∃ j : Nat, j ≤ T ∧ i = .int .i64 j ∧ FuseAt w p d d2 A j dn wr) (fun _ i _ => T - (intOf i).toNat)
  case atStart =>
    refine ⟨0, by omega, rfl, ?_⟩
    by_cases h0 : 0 < A
    · exact Or.inl ⟨h0, rfl, D4.out⟩
    · obtain rfl : A = 0 := by omega
      exact Or.inr ⟨Nat.le_refl _, rfl, false, D4.out⟩
  case round =>
    clear D4
    obtain ⟨j, hj, rfl, hS⟩ := hrel
    by_cases hlt : j < T
    · rcases hS with ⟨hjA, rfl, hD⟩ | ⟨hjA, rfl, gone, hD⟩
      · have D := Lib.hid hD
        clear hD
        rcases (show j % 3 = 0 ∨ j % 3 = 1 ∨ j % 3 = 2 by omega) with h0 | h0 | h0
        · have e0 : (((j : Int) % 3) == 0) = true := by rw [beq_iff_eq]; omega
          clear h0
          go_wp2_with fail
          refine (pick_any t0 80 (by omega) (by omega) h3 h4 _).mono ?_
          rintro e w4 ⟨rfl, rfl⟩
          rw [← HT.out]
          go_wp2_with fail
          refine (D.out.sector ⟨#[120]⟩ qx (by decide) HX.out).mono ?_
          rintro e w5 ⟨rfl, hD5⟩
          have D5 := Lib.hid hD5
          clear hD5 D
          go_wp2_with fail
          refine (D5.out.writeD _ (j % 8) (by omega) qx (Nat.mod_lt _ (by omega)) HX64.out (by omega) (by omega) (by omega) (by omega) (by omega) (by omega)).mono ?_
          rintro e w6 ⟨rfl, hD6⟩
          have D6 := Lib.hid hD6
          clear hD6 D5
          go_wp2_with fail
          refine D6.out.toldGone.mono ?_
          rintro e w7 ⟨rfl, rfl⟩
          go_wp2_with fail
          go_roundw
          case rel => exact ⟨j + 1, by omega, by go_num, fuse_next hjA D6.out⟩
          case measure => simp [intOf]; omega
        · have e0 : (((j : Int) % 3) == 0) = false := by rw [beq_eq_false_iff_ne]; omega
          have e1 : (((j : Int) % 3) == 1) = true := by rw [beq_iff_eq]; omega
          clear h0
          go_wp2_with fail
          refine (pick_any t0 80 (by omega) (by omega) h3 h4 _).mono ?_
          rintro e w4 ⟨rfl, rfl⟩
          rw [← HT.out]
          go_wp2_with fail
          refine (D.out.sector ⟨#[121]⟩ qy (by decide) HY.out).mono ?_
          rintro e w5 ⟨rfl, hD5⟩
          have D5 := Lib.hid hD5
          clear hD5 D
          go_wp2_with fail
          refine (D5.out.writeE _ (j % 3) (by omega) qy (Nat.mod_lt _ (by omega)) HY64.out (by omega) (by omega) (by omega) (by omega) (by omega) (by omega)).mono ?_
          rintro e w6 ⟨rfl, hD6⟩
          have D6 := Lib.hid hD6
          clear hD6 D5
          go_wp2_with fail
          refine D6.out.toldGone.mono ?_
          rintro e w7 ⟨rfl, rfl⟩
          go_wp2_with fail
          go_roundw
          case rel => exact ⟨j + 1, by omega, by go_num, fuse_next hjA D6.out⟩
          case measure => simp [intOf]; omega
        · have e0 : (((j : Int) % 3) == 0) = false := by rw [beq_eq_false_iff_ne]; omega
          have e1 : (((j : Int) % 3) == 1) = false := by rw [beq_eq_false_iff_ne]; omega
          have e2 : (((j : Int) % 3) == 2) = true := by rw [beq_iff_eq]; omega
          clear h0
          go_wp2_with fail
          refine (pick_any t0 80 (by omega) (by omega) h3 h4 _).mono ?_
          rintro e w4 ⟨rfl, rfl⟩
          rw [← HT.out]
          go_wp2_with fail
          refine (D.out.flush (by omega) (by omega) (by omega) (by omega) (by omega)).mono ?_
          rintro e w6 ⟨rfl, hD6⟩
          have D6 := Lib.hid hD6
          clear hD6 D
          go_wp2_with fail
          refine D6.out.toldGone.mono ?_
          rintro e w7 ⟨rfl, rfl⟩
          go_wp2_with fail
          go_roundw
          case rel => exact ⟨j + 1, by omega, by go_num, fuse_next hjA D6.out⟩
          case measure => simp [intOf]; omega
      · have D := Lib.hid hD
        clear hD
        rcases (show j % 3 = 0 ∨ j % 3 = 1 ∨ j % 3 = 2 by omega) with h0 | h0 | h0
        · have e0 : (((j : Int) % 3) == 0) = true := by rw [beq_iff_eq]; omega
          clear h0
          go_wp2_with fail
          refine (pick_any t0 80 (by omega) (by omega) h3 h4 _).mono ?_
          rintro e w4 ⟨rfl, rfl⟩
          rw [← HT.out]
          go_wp2_with fail
          refine (D.out.sector ⟨#[120]⟩ qx (by decide) HX.out).mono ?_
          rintro e w5 ⟨rfl, hD5⟩
          have D := Lib.hid hD5
          clear hD5
          go_wp2_with fail
          refine (D.out.lostD _ (j % 8) (by omega) qx (Nat.mod_lt _ (by omega)) HX64.out).mono ?_
          rintro e w6 ⟨g, rfl, hf, hg, hD6⟩
          have D6 := Lib.hid hD6
          have F6 := Lib.hid hf
          clear hD6 hf hg D
          go_wp2_with fail
          refine (D6.out.lostR 0).mono ?_
          rintro e w7 ⟨⟨g7, rfl, hf7, hg7, hD7⟩, hb7⟩
          have F7 := Lib.hid hf7
          have F6b := Lib.hid (F6.out.keep (hb7.block g F6.out.lt))
          have D7 := Lib.hid hD7
          clear hf7 hg7 hD7 hb7 D6 F6
          go_wp2_with fail
          refine (errorsIs_true g 10 _ F6b.out).mono ?_
          rintro e w8 ⟨rfl, rfl⟩
          go_wp2_with fail
          refine D7.out.toldGone.mono ?_
          rintro e w8 ⟨rfl, rfl⟩
          go_wp2_with fail
          refine (errorsIs_true g7 10 _ F7.out).mono ?_
          rintro e w8 ⟨rfl, rfl⟩
          go_wp2_with fail
          go_roundw
          case rel => exact ⟨j + 1, by omega, by go_num, Or.inr ⟨by omega, rfl, true, D7.out.mono (Nat.le_succ _)⟩⟩
          case measure => simp [intOf]; omega
        · have e0 : (((j : Int) % 3) == 0) = false := by rw [beq_eq_false_iff_ne]; omega
          have e1 : (((j : Int) % 3) == 1) = true := by rw [beq_iff_eq]; omega
          clear h0
          go_wp2_with fail
          refine (pick_any t0 80 (by omega) (by omega) h3 h4 _).mono ?_
          rintro e w4 ⟨rfl, rfl⟩
          rw [← HT.out]
          go_wp2_with fail
          refine (D.out.sector ⟨#[121]⟩ qy (by decide) HY.out).mono ?_
          rintro e w5 ⟨rfl, hD5⟩
          have D := Lib.hid hD5
          clear hD5
          go_wp2_with fail
          refine (D.out.lostE _ (j % 3) (by omega) qy (Nat.mod_lt _ (by omega)) HY64.out).mono ?_
          rintro e w6 ⟨g, rfl, hf, hg, hD6⟩
          have D6 := Lib.hid hD6
          have F6 := Lib.hid hf
          clear hD6 hf hg D
          go_wp2_with fail
          refine (D6.out.lostR 0).mono ?_
          rintro e w7 ⟨⟨g7, rfl, hf7, hg7, hD7⟩, hb7⟩
          have F7 := Lib.hid hf7
          have F6b := Lib.hid (F6.out.keep (hb7.block g F6.out.lt))
          have D7 := Lib.hid hD7
          clear hf7 hg7 hD7 hb7 D6 F6
          go_wp2_with fail
          refine (errorsIs_true g 10 _ F6b.out).mono ?_
          rintro e w8 ⟨rfl, rfl⟩
          go_wp2_with fail
          refine D7.out.toldGone.mono ?_
          rintro e w8 ⟨rfl, rfl⟩
          go_wp2_with fail
          refine (errorsIs_true g7 10 _ F7.out).mono ?_
          rintro e w8 ⟨rfl, rfl⟩
          go_wp2_with fail
          go_roundw
          case rel => exact ⟨j + 1, by omega, by go_num, Or.inr ⟨by omega, rfl, true, D7.out.mono (Nat.le_succ _)⟩⟩
          case measure => simp [intOf]; omega
        · have e0 : (((j : Int) % 3) == 0) = false := by rw [beq_eq_false_iff_ne]; omega
          have e1 : (((j : Int) % 3) == 1) = false := by rw [beq_eq_false_iff_ne]; omega
          have e2 : (((j : Int) % 3) == 2) = true := by rw [beq_iff_eq]; omega
          clear h0
          go_wp2_with fail
          refine (pick_any t0 80 (by omega) (by omega) h3 h4 _).mono ?_
          rintro e w4 ⟨rfl, rfl⟩
          rw [← HT.out]
          go_wp2_with fail
          refine D.out.lostF.mono ?_
          rintro e w6 ⟨g, rfl, hf, hg, hD6⟩
          have D6 := Lib.hid hD6
          have F6 := Lib.hid hf
          clear hD6 hf hg D
          go_wp2_with fail
          refine (D6.out.lostR 0).mono ?_
          rintro e w7 ⟨⟨g7, rfl, hf7, hg7, hD7⟩, hb7⟩
          have F7 := Lib.hid hf7
          have F6b := Lib.hid (F6.out.keep (hb7.block g F6.out.lt))
          have D7 := Lib.hid hD7
          clear hf7 hg7 hD7 hb7 D6 F6
          go_wp2_with fail
          refine (errorsIs_true g 10 _ F6b.out).mono ?_
          rintro e w8 ⟨rfl, rfl⟩
          go_wp2_with fail
          refine D7.out.toldGone.mono ?_
          rintro e w8 ⟨rfl, rfl⟩
          go_wp2_with fail
          refine (errorsIs_true g7 10 _ F7.out).mono ?_
          rintro e w8 ⟨rfl, rfl⟩
          go_wp2_with fail
          go_roundw
          case rel => exact ⟨j + 1, by omega, by go_num, Or.inr ⟨by omega, rfl, true, D7.out.mono (Nat.le_succ _)⟩⟩
          case measure => simp [intOf]; omega
    · rcases hS with ⟨hjA, rfl, hD⟩ | ⟨hjA, rfl, gone, hD⟩
      all_goals
        have D := Lib.hid hD
        clear hD
        go_wp2_with fail
        refine (pick_any t0 80 (by omega) (by omega) h3 h4 _).mono ?_
        rintro e w4 ⟨rfl, rfl⟩
        rw [← HT.out]
        go_wp2_with fail
        refine D.out.toldActs.mono ?_
        rintro e w4 ⟨rfl, rfl⟩
        go_wp2_with fail
        refine D.out.on.mono ?_
        rintro e w5 ⟨rfl, hD5⟩
        have D5 := Lib.hid hD5
        clear hD5 D
        go_wp2_with fail
        refine (D5.out.sector ⟨#[122]⟩ qz (by decide) HZ.out).mono ?_
        rintro e w6 ⟨rfl, hD6⟩
        have D6 := Lib.hid hD6
        clear hD6 D5
        go_wp2_with fail
        refine (D6.out.writeE 0 0 rfl qz (by omega) HZ64.out (by omega) (by omega) (by omega) (by omega) (by omega) (by omega)).mono ?_
        rintro e w7 ⟨rfl, hD7⟩
        have D7 := Lib.hid hD7
        clear hD7 D6
        go_wp2_with fail
        refine D7.out.toldGone.mono ?_
        rintro e w8 ⟨rfl, rfl⟩
        go_wp2_with fail
        refine D7.out.toldActs.mono ?_
        rintro e w8 ⟨rfl, rfl⟩
        go_wp2_with fail
        go_ret
        exact ⟨rfl, D7.out.old⟩
end Go.Proofs.Ytjkigndhbbeolaa
