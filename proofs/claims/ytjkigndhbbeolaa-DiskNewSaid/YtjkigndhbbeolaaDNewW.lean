/- The walk of the statement DiskNew. -/
import Derived.Test.YtjkigndhbbeolaaDFail
import Derived.Test.YtjkigndhbbeolaaDKnown
namespace Go.Proofs.Ytjkigndhbbeolaa
open Go.RowKit

theorem is_same (g : Nat) (c : Int) (hc : c ≠ 0) (w : World) (h : FaultAt g c w) :
    Calls Try.prog 12 #[.iface 83 (.pointer (some ⟨g, 0, none⟩)), .int .i64 c] w fun e w' => e = .returned (.bool true) ∧ w = w' := is_fault g c hc w h
set_option maxRecDepth 100000 in
set_option maxHeartbeats 2000000 in
theorem New_bad_walk (n : Int) (hn : n < 1 ∨ 8192 < n) (w : World) : Calls Try.prog 3 #[.int .i64 n] w fun e w' => e = .returned (.bool true) ∧ Below w.heap.size w w' := by
  rcases hn with hn | hn
  · go_enter Try.func3, Try.ntmps3
    go_wp2_with fail
    refine (known_true _).mono ?_
    rintro e w1 ⟨rfl, hb1⟩
    have B1 := Lib.hid hb1
    clear hb1
    go_wp2_with fail
    refine (NewPower_any _).mono ?_
    rintro e w2 ⟨p, hp, rfl, hP, hb2⟩
    have B2 := Lib.hid (B1.out.trans (hb2.mono B1.out.size))
    clear hb2 B1 hP hp
    go_wp2_with fail
    refine (New_low p n hn _).mono ?_
    rintro e w3 ⟨g, hg, rfl, hf, hb3⟩
    have HF := Lib.hid hf
    have B3 := Lib.hid (B2.out.trans (hb3.mono B2.out.size))
    clear hb3 B2 hf hg
    go_wp2_with (go_at_call 12; refine (is_same g 1 (by decide) _ HF.out).mono ?_; rintro e w' ⟨rfl, rfl⟩)
    go_ret
    exact ⟨rfl, B3.out⟩
  · go_enter Try.func3, Try.ntmps3
    go_wp2_with fail
    refine (known_true _).mono ?_
    rintro e w1 ⟨rfl, hb1⟩
    have B1 := Lib.hid hb1
    clear hb1
    go_wp2_with fail
    refine (NewPower_any _).mono ?_
    rintro e w2 ⟨p, hp, rfl, hP, hb2⟩
    have B2 := Lib.hid (B1.out.trans (hb2.mono B1.out.size))
    clear hb2 B1 hP hp
    go_wp2_with fail
    refine (New_high p n hn _).mono ?_
    rintro e w3 ⟨g, hg, rfl, hf, hb3⟩
    have HF := Lib.hid hf
    have B3 := Lib.hid (B2.out.trans (hb3.mono B2.out.size))
    clear hb3 B2 hf hg
    go_wp2_with (go_at_call 12; refine (is_same g 1 (by decide) _ HF.out).mono ?_; rintro e w' ⟨rfl, rfl⟩)
    go_ret
    exact ⟨rfl, B3.out⟩
theorem deadNo {d : Nat} (p : Nat) (F : List Nat) {n : Nat} {S : List (List UInt8)} {ps : List Dk.Wr} {life : Int} {w : World} (h : Live d p F n S ps life w) :
    Calls Try.prog 17 #[.pointer (some ⟨d, 0, none⟩)] w fun e w' => e = .returned (.bool false) ∧ w = w' := by
  obtain ⟨bl, bn, pv, h, _⟩ := h
  exact Dead_no d bl n h.n1 h.n2 w h.c1
theorem blank_any_wide (n : Nat) : ∀ x ∈ blankS n, x.length = 64 := fun x hx => by rw [blankS] at hx; rw [List.eq_of_mem_replicate hx, List.length_replicate]
set_option maxRecDepth 100000 in
set_option maxHeartbeats 2000000 in
theorem New_ok_walk (n : Nat) (h1 : 1 ≤ n) (h2 : n ≤ 8192) (w : World) : Calls Try.prog 3 #[.int .i64 n] w fun e w' => e = .returned (.bool true) ∧ Below w.heap.size w w' := by
  obtain ⟨qz, hqz⟩ := list_of (List.replicate 64 (0 : UInt8))
  obtain ⟨qi, hqi⟩ := list_of (blankS n).flatten
  have hql : qi.size = n * 64 := by rw [← size_toList, hqi, flat_length (blank_any_wide n), blankS, List.length_replicate]
  have hq1 : qi.size ≤ n * 64 := by omega
  have hq2 : n * 64 ≤ qi.size := by omega
  have HQZ := Lib.hid hqz
  have HQI := Lib.hid hqi
  have hqe : ((qi.size : Int) == 64 * (n : Int)) = true := by rw [beq_iff_eq]; omega
  clear hqz hqi hql
  go_enter Try.func3, Try.ntmps3
  go_wp2_with fail
  refine (known_true _).mono ?_
  rintro e w1 ⟨rfl, hb1⟩
  have B1 := Lib.hid hb1
  clear hb1
  go_wp2_with fail
  refine (NewPower_any _).mono ?_
  rintro e w2 ⟨p, hp, rfl, hP, hb2⟩
  have B2 := Lib.hid (B1.out.trans (hb2.mono B1.out.size))
  have P2 := Lib.hid hP
  have G2 := Lib.hid (Nat.le_trans B1.out.size hp)
  clear hb2 B1 hP hp
  go_wp2_with fail
  refine (New_ok p false (-1) 0 n h1 h2 _ P2.out).mono ?_
  rintro e w3 ⟨d, F, rfl, hL, hF, hb3⟩
  have R3 : Hid (Rack w p d F n (blankS n) [] 0 w3) := Lib.hid ⟨P2.out.keep (hb3.block p P2.out.lt), hL, B2.out.trans (hb3.mono B2.out.size), G2.out, fun x hx => Nat.le_trans B2.out.size (hF x hx)⟩
  clear hL hF hb3 P2 B2 G2
  go_wp2_with fail
  have R : Hid (∀ x : Int, x = ((n - 1 : Nat) : Int) → Calls Try.prog 13 #[.pointer (some ⟨d, 0, none⟩), .int .i64 x] w3 fun e w' => e = .returned (.tuple #[.string qz, .nilIface]) ∧ w3 = w') := Lib.hid (fun x hx => by
    subst hx
    exact R3.out.read (n - 1) (by omega) qz (by rw [HQZ.out, Dk.readAt_nil, blankS, List.getD, List.getElem?_replicate, if_pos (by omega)]; rfl))
  refine (R.out _ (by omega)).mono ?_
  rintro e w4 ⟨rfl, rfl⟩
  go_wp2_with fail
  refine (Read_bad d p F n (blankS n) [] 0 (-1) 0 n (Or.inr (Int.le_refl _)) _ R3.out.liv R3.out.pow).mono ?_
  rintro e w4 ⟨g, hg, rfl, hf, hb4⟩
  have HF := Lib.hid hf
  have R4 := Lib.hid (R3.out.below hb4)
  clear hb4 R3 hf hg R
  go_wp2_with (first | (go_at_call 12; refine (is_same g 1 (by decide) _ HF.out).mono ?_; rintro e w' ⟨rfl, rfl⟩) | (go_at_call 14; refine (Sectors_any d p F n (blankS n) [] 0 _ R4.out.liv).mono ?_; rintro e w' ⟨rfl, rfl⟩) | fail)
  refine (R4.out.sector ⟨#[]⟩ qz (by decide) (by rw [HQZ.out, ← Dk.sector_nil])).mono ?_
  rintro e w5 ⟨rfl, h5⟩
  have R5 := Lib.hid h5
  clear h5 R4
  go_wp2_with fail
  refine (R5.out.image qi HQI.out).mono ?_
  rintro e w6 ⟨rfl, h6⟩
  have R6 := Lib.hid h6
  clear h6 R5
  go_wp2_with fail
  refine (deadNo p F R6.out.liv).mono ?_
  rintro e w7 ⟨rfl, rfl⟩
  go_wp2_with fail
  refine (Life_any d p F n (blankS n) [] 0 _ R6.out.liv).mono ?_
  rintro e w7 ⟨rfl, rfl⟩
  go_wp2_with fail
  go_ret
  exact ⟨rfl, R6.out.old⟩
end Go.Proofs.Ytjkigndhbbeolaa
