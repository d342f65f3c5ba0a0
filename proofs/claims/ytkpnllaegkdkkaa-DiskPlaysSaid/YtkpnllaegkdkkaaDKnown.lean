/- The walk of the chapter's first example. -/
import Derived.Test.YtkpnllaegkdkkaaDRack
import Derived.Deep.RegionHeld3
namespace Go.Proofs.Ytkpnllaegkdkkaa
open Go.RowKit

theorem list_of (l : List UInt8) : ∃ m : ByteArray, m.data.toList = l := ⟨⟨l.toArray⟩, by simp⟩
theorem bytes_eq {a b : ByteArray} (h : a.data.toList = b.data.toList) : a = b := by
  cases a; cases b; congr; exact Array.toList_inj.1 h
def la : List UInt8 := Dk.sector [97]
def lb : List UInt8 := Dk.sector [98]
def z64 : List UInt8 := Dk.sector []
theorem length_la : la.length = 64 := Dk.length_sector _
theorem length_lb : lb.length = 64 := Dk.length_sector _
theorem z64_eq : z64 = List.replicate 64 0 := Dk.sector_nil
/-- What the first example leaves. -/
def knownS : List (List UInt8) := [la.take 3 ++ z64.drop 3, lb]
theorem known_settled : Dk.settleTo (blankS 2) [(0, la), (1, lb)] (Dk.keptAt [false, true] (Dk.clamp 3)) 2 = knownS := by
  have hc : Dk.clamp 3 = 3 := by have := Dk.clamp_eq 3; omega
  have k0 : Dk.keptAt [false, true] 3 0 = 3 := by rw [Dk.keptAt_lost rfl, Dk.tornAt_zero]
  have k1 : Dk.keptAt [false, true] 3 1 = 64 := Dk.keptAt_kept rfl
  rw [hc, Dk.settleTo_succ, Dk.settleTo_succ, Dk.settleTo_zero, k0, k1, Dk.put_eq, Dk.put_eq, knownS, blankS, z64_eq]
  have hb := length_lb
  simp [List.replicate, List.take_of_length_le (l := lb) (i := 64) (by omega)]
theorem la_eq : la = Dk.sector [97] := rfl
theorem lb_eq : lb = Dk.sector [98] := rfl
theorem z64_sec : z64 = Dk.sector [] := rfl
theorem knownS_0 : knownS.getD 0 [] = la.take 3 ++ z64.drop 3 := rfl
theorem knownS_flat : knownS.flatten = (la.take 3 ++ z64.drop 3) ++ lb := by simp [knownS]
attribute [irreducible] la lb z64 knownS

set_option maxRecDepth 100000 in
set_option maxHeartbeats 2000000 in
theorem known_true (w : World) : Calls Try.prog 4 #[] w fun e w' => e = .returned (.bool true) ∧ Below w.heap.size w w' := by
  obtain ⟨qa, hqa⟩ := list_of la
  obtain ⟨qb, hqb⟩ := list_of lb
  obtain ⟨qz, hqz⟩ := list_of z64
  obtain ⟨qt, hqt⟩ := list_of (la.take 3 ++ z64.drop 3)
  obtain ⟨qi, hqi⟩ := list_of knownS.flatten
  have HA := Lib.hid hqa
  have HB := Lib.hid hqb
  have HZ := Lib.hid hqz
  have HT := Lib.hid hqt
  have HI := Lib.hid hqi
  have sa : qa.size = 64 := by rw [← size_toList, hqa, length_la]
  have sb : qb.size = 64 := by rw [← size_toList, hqb, length_lb]
  have SA := Lib.hid sa
  have SB := Lib.hid sb
  clear hqa hqb hqz hqt hqi sa sb
  go_enter Try.func4, Try.ntmps4
  go_wp2_with fail
  refine (NewPower_any _).mono ?_
  rintro e w1 ⟨p, hp, rfl, hP, hb1⟩
  have P1 := Lib.hid hP
  have B1 := Lib.hid hb1
  have G1 := Lib.hid hp
  clear hP hb1 hp
  go_wp2_with fail
  refine (New_ok p false (-1) 0 2 (by omega) (by omega) _ P1.out).mono ?_
  rintro e w2 ⟨d, F, rfl, hL, hF, hb2⟩
  have R2 : Hid (Rack w p d F 2 (blankS 2) [] 0 w2) := Lib.hid ⟨P1.out.keep (hb2.block p P1.out.lt), hL, B1.out.trans (hb2.mono B1.out.size), G1.out, fun x hx => Nat.le_trans B1.out.size (hF x hx)⟩
  clear hL hF hb2 P1 B1 G1
  go_wp2_with fail
  refine (R2.out.sector ⟨#[97]⟩ qa (by decide) (by rw [HA.out, la_eq])).mono ?_
  rintro e w3 ⟨rfl, h3⟩
  have R3 := Lib.hid h3
  clear h3 R2
  go_wp2_with fail
  refine (R3.out.write 0 qa (by omega) SA.out (by simp) (by omega)).mono ?_
  rintro e w4 ⟨rfl, F4, h4⟩
  have R4 := Lib.hid h4
  clear h4 R3
  go_wp2_with fail
  refine (R4.out.sector ⟨#[98]⟩ qb (by decide) (by rw [HB.out, lb_eq])).mono ?_
  rintro e w5 ⟨rfl, h5⟩
  have R5 := Lib.hid h5
  clear h5 R4
  go_wp2_with fail
  refine (R5.out.write 1 qb (by omega) SB.out (by simp) (by omega)).mono ?_
  rintro e w6 ⟨rfl, F6, h6⟩
  rw [HA.out, HB.out] at h6
  have R6 := Lib.hid h6
  clear h6 R5
  go_wp2_with fail
  refine (R6.out.read 1 (by omega) qb (by rw [HB.out]; exact (Dk.readAt_snoc _ _ (1, lb) 1 (by simp [blankS])).symm)).mono ?_
  rintro e w7 ⟨rfl, rfl⟩
  go_wp2_with fail
  refine (R6.out.pending 2 rfl).mono ?_
  rintro e w7 ⟨rfl, rfl⟩
  go_wp2_with fail
  have hba : Below w6.heap.size w6 (w6.alloc (.cells #[.bool false, .bool true] 4)) := (Below.refl _ _).alloc (Nat.le_refl _) _
  have hy : Yes (.slice (some ⟨w6.heap.size, 0, none⟩) 2 2) w6.heap.size 0 [w6.heap.size] [false, true] (w6.alloc (.cells #[.bool false, .bool true] 4)) := by
    refine ⟨⟨_, 2, rfl, Or.inr rfl⟩, Or.inr (by simp), fun i hi => ?_, by simp⟩
    have hg : (w6.alloc (.cells #[.bool false, .bool true] 4)).heap[w6.heap.size]? = some (.cells [Value.bool false, .bool true].toArray 4 (0, 0)) := heap_alloc_new _ _
    rw [Nat.zero_add, cell_of_list hg]
    match i, hi with
    | 0, _ => rfl
    | 1, _ => rfl
  have R6a := Lib.hid (R6.out.below hba)
  have hn6 : w6.heap.size ∉ F6 := fun hm => by
    obtain ⟨_, _, _, _, _, _, _, _, _, h7⟩ := R6.out.liv
    exact Nat.lt_irrefl _ (h7 _ hm)
  refine (R6a.out.lose _ w6.heap.size 0 [w6.heap.size] [false, true] 3 hy (fun k hk => by rw [List.mem_singleton.1 hk]; exact ⟨by simp, hn6⟩)).mono ?_
  rintro e w8 ⟨rfl, h8⟩
  have h8' : Rack w p d F6 2 knownS [] 2 w8 := by
    have := known_settled
    rw [← this]; exact h8
  have R8 := Lib.hid h8'
  clear h8 h8' hy hba R6a R6 hn6
  go_wp2_with fail
  refine (R8.out.read 0 (by omega) qt (by rw [HT.out, Dk.readAt_nil, knownS_0])).mono ?_
  rintro e w9 ⟨rfl, rfl⟩
  go_wp2_with fail
  have hz3 : 3 ≤ qz.size := by rw [← size_toList, HZ.out, z64_eq]; decide
  have hi64 : 64 ≤ qi.size := by have := length_lb; rw [← size_toList, HI.out, knownS_flat, List.length_append]; omega
  obtain ⟨x3, hx3⟩ : ∃ x3, x3 = qz.extract 3 qz.size := ⟨_, rfl⟩
  have hx3l : x3.data.toList = z64.drop 3 := by rw [hx3, ← HZ.out]; simp [ByteArray.data_extract, Array.toList_extract, List.take_of_length_le]
  have hx3s : x3.size ≤ 64 := by rw [← size_toList, hx3l, z64_eq]; decide
  have hsum : ¬ 9223372036854775807 < 3 + x3.size := by omega
  have e1 : (⟨#[97, 97, 97]⟩ : ByteArray) ++ x3 = qt := by
    refine bytes_eq ?_
    rw [HT.out]
    have : ((⟨#[97, 97, 97]⟩ : ByteArray) ++ x3).data.toList = [97, 97, 97] ++ x3.data.toList := by simp
    rw [this, hx3l]
    congr 1
    rw [la_eq]; simp [Dk.sector_some, List.range, List.range.loop]
  have e2 : qi.extract 64 qi.size = qb := by
    refine bytes_eq ?_
    rw [HB.out]
    have : (qi.extract 64 qi.size).data.toList = qi.data.toList.drop 64 := by simp [ByteArray.data_extract, Array.toList_extract, List.take_of_length_le]
    rw [this, HI.out, knownS_flat, List.drop_left' (by rw [List.length_append, List.length_take, List.length_drop, length_la, z64_eq]; decide)]
  have r3 : ∀ v : World, (Instr.slice 9 (.string qz) (some (.int .i64 3)) none none).run Try.prog v = .ok (.string x3) v := fun v => by
    have := run_slice_string_from_if v 9 qz .i64 3 Try.underlying9
    rw [if_pos (by omega)] at this; rw [hx3]; simpa using this
  have r64 : ∀ v : World, (Instr.slice 9 (.string qi) (some (.int .i64 64)) none none).run Try.prog v = .ok (.string qb) v := fun v => by
    have := run_slice_string_from_if v 9 qi .i64 64 Try.underlying9
    rw [if_pos (by omega)] at this; rw [← e2]; simpa using this
  clear hx3 hx3l hz3 hi64 e2
  have R8d : Hid (Rack w p d F6 2 knownS [] 2 w8.drew) := Lib.hid (R8.out.below (Below.refl _ _).drew)
  go_region_held3 (fun v => Rack w p d F6 2 knownS [] 2 v) (first | assumption | exact R8d.out) (first | (go_at_call 13; ((with_reducible refine ((by assumption : Rack w p d F6 2 knownS [] 2 _).sector ⟨#[98]⟩ qb (by decide) (by rw [HB.out, lb_eq])).mono ?_)); rintro e w10 ⟨rfl, h10⟩) | (go_at_call 13; ((with_reducible refine ((by assumption : Rack w p d F6 2 knownS [] 2 _).sector ⟨#[]⟩ qz (by decide) (by rw [HZ.out, z64_sec])).mono ?_)); rintro e w10 ⟨rfl, h10⟩) | (go_at_call 11; refine ((by assumption : Rack w p d F6 2 knownS [] 2 _).image qi HI.out).mono ?_; rintro e w10 ⟨rfl, h10⟩) | (go_at_call 17; refine ((by assumption : Rack w p d F6 2 knownS [] 2 _).told).mono ?_; rintro e w10 ⟨rfl, rfl⟩))
  go_wp2
  go_ret
  exact ⟨rfl, (by assumption : Rack w p d F6 2 knownS [] 2 _).old⟩
end Go.Proofs.Ytkpnllaegkdkkaa
