/- Whatever the numbers and the pieces, ErasureRestores answers true and leaves its arguments as they were: the statement ErasureRestoresSaid, with no condition. (Merged: E6 E7 E8 E9 E10 MOpen EOpen EResRow, for a claim's number of files.) -/
import Derived.Test.YteanbflbclmeeaaGreatE4
import Derived.Test.YteanbflbclmeeaaGreatERk
import Derived.Test.YteanbflbclmeeaaGreatMCall
import Derived.Test.YteanbflbclmeeaaGreatRows
import Derived.OpenShut
import Derived.SizedLaws
import Derived.SliceStrings
import Derived.Deep.Strs
import Derived.Carry
import Derived.Test.YteanbflbclmeeaaGreatE1
import Derived.Deep.SlicePairs
import Derived.WalkKit
import Derived.ProofKit
/- Erasure: what Restore, Join and Check refuse. -/
namespace Go.Proofs.YteanbflbclmeeaaGreat
open Go.RowKit

set_option maxHeartbeats 1000000 in
theorem Restore_bad (k m L : Int) (a0 : Option Addr) (n cap : Nat) (hk : k ≤ 9223372036854775807) (h : mayE k m L = false) (w : World) : Calls Tryz.prog 6 #[.int .i64 k, .int .i64 m, .int .i64 L, .slice a0 n cap] w fun e w' => ∃ g, e = .returned (.tuple #[.slice none 0 0, faultV g]) ∧ FaultAt g 1 0 w' ∧ Below w.heap.size w w' := by
  go_enter Tryz.func6, Tryz.ntmps6
  go_wp2_with fail
  refine (mayE_any k m L hk _).mono ?_
  rintro e w' ⟨rfl, rfl⟩
  rw [h]
  go_wp2_with fail
  refine (eFault_any 1 _).mono ?_
  rintro e w1 ⟨rfl, hF, hb⟩
  have HF := Lib.hid hF
  have HB := Lib.hid hb
  clear hF hb
  go_wp2_with fail
  go_ret2
  exact ⟨_, rfl, HF.out, HB.out⟩
set_option maxHeartbeats 1000000 in
theorem Join_bad (k L : Int) (a0 : Option Addr) (n cap : Nat) (hk : k ≤ 9223372036854775807) (h : mayE k 0 L = false) (w : World) : Calls Tryz.prog 10 #[.int .i64 k, .int .i64 L, .slice a0 n cap] w fun e w' => ∃ g, e = .returned (.tuple #[.string ⟨#[]⟩, faultV g]) ∧ FaultAt g 1 0 w' ∧ Below w.heap.size w w' := by
  go_enter Tryz.func10, Tryz.ntmps10
  go_wp2_with fail
  refine (mayE_any k 0 L hk _).mono ?_
  rintro e w' ⟨rfl, rfl⟩
  rw [h]
  go_wp2_with fail
  refine (eFault_any 1 _).mono ?_
  rintro e w1 ⟨rfl, hF, hb⟩
  have HF := Lib.hid hF
  have HB := Lib.hid hb
  clear hF hb
  go_wp2_with fail
  go_ret2
  exact ⟨_, rfl, HF.out, HB.out⟩
set_option maxHeartbeats 1000000 in
theorem Check_bad (k m : Int) (a0 : Option Addr) (n cap : Nat) (hk : k ≤ 9223372036854775807) (h : mayE k m 0 = false) (w : World) : Calls Tryz.prog 12 #[.int .i64 k, .int .i64 m, .slice a0 n cap] w fun e w' => ∃ g, e = .returned (.tuple #[.bool false, faultV g]) ∧ FaultAt g 1 0 w' ∧ Below w.heap.size w w' := by
  go_enter Tryz.func12, Tryz.ntmps12
  go_wp2_with fail
  refine (mayE_any k m 0 hk _).mono ?_
  rintro e w' ⟨rfl, rfl⟩
  rw [h]
  go_wp2_with fail
  refine (eFault_any 1 _).mono ?_
  rintro e w1 ⟨rfl, hF, hb⟩
  have HF := Lib.hid hF
  have HB := Lib.hid hb
  clear hF hb
  go_wp2_with fail
  go_ret2
  exact ⟨_, rfl, HF.out, HB.out⟩
set_option maxHeartbeats 1000000 in
theorem Restore_len (k m L n cap : Nat) (a0 : Option Addr) (has : Nat → Bool) (dat : Nat → ByteArray) (hk1 : 1 ≤ k) (hkm : k + m ≤ 255) (hn : n ≤ 1000) (hne : n ≠ k + m) (w : World) (h : PX a0 n has dat w) :
    Calls Tryz.prog 6 #[.int .i64 k, .int .i64 m, .int .i64 L, .slice a0 n cap] w fun e w' => ∃ g, e = .returned (.tuple #[.slice none 0 0, faultV g]) ∧ FaultAt g 19 0 w' ∧ Below w.heap.size w w' := by
  obtain ⟨N, hN⟩ : ∃ N, k + m = N := ⟨_, rfl⟩
  have HM : Hid (mayE k m L = true) := Lib.hid (mayE_yes (n := N) hk1 hN (by omega))
  have HTH := Lib.hid (there_shape n cap _ a0 has dat _ hn rfl rfl w h)
  have hsum : (k : Int) + (m : Int) = (N : Int) := by omega
  have hnb := nat_ne_B (i := n) (p := N) (by omega)
  have hk2 : k ≤ 255 := by omega
  have hm2 : m ≤ 255 := by omega
  clear hN h hne
  go_enter Tryz.func6, Tryz.ntmps6
  go_wp2_with fail
  refine (mayE_any k m L (by omega) _).mono ?_
  rintro e w' ⟨rfl, rfl⟩
  rw [HM.out]
  go_wp2_with fail
  refine HTH.out.mono ?_
  rintro e w1 ⟨a1, c1, a2, c2, rfl, _, hb1⟩
  have HB1 := Lib.hid hb1
  clear hb1 HTH
  go_wp2_with fail
  refine (eFault_any 19 _).mono ?_
  rintro e w2 ⟨rfl, hF, hb⟩
  have HF := Lib.hid hF
  have HB := Lib.hid (HB1.out.trans (hb.mono HB1.out.size))
  clear hF hb
  go_wp2_with fail
  go_ret2
  exact ⟨_, rfl, HF.out, HB.out⟩
set_option maxRecDepth 20000 in
set_option maxHeartbeats 2000000 in
theorem Restore_size (k m n s L cap : Nat) (a0 : Option Addr) (has : Nat → Bool) (dat : Nat → ByteArray) (hk1 : 1 ≤ k) (hn : k + m = n) (hkm : n ≤ 255) (hL : (L : Int) ≤ 9223372036854775807) (hs : szN k L = s) (hsz : ∃ j, j < n ∧ has j = true ∧ (dat j).size ≠ s) (w : World) (h : PX a0 n has dat w) :
    Calls Tryz.prog 6 #[.int .i64 k, .int .i64 m, .int .i64 L, .slice a0 n cap] w fun e w' => ∃ g, e = .returned (.tuple #[.slice none 0 0, faultV g]) ∧ FaultAt g 19 0 w' ∧ Below w.heap.size w w' := by
  have HM : Hid (mayE k m L = true) := Lib.hid (mayE_yes hk1 hn hkm)
  obtain ⟨p, hp⟩ : ∃ p : Nat → Nat, p = fun r => (hereL has n).getD r 0 := ⟨_, rfl⟩
  obtain ⟨R, hR⟩ : ∃ R, (hereL has n).length = R := ⟨_, rfl⟩
  have HTH := Lib.hid (there_shape n cap R a0 has dat p (by omega) hR hp w h)
  have HZ : Hid (∀ v, Calls Tryz.prog 20 #[.int .i64 k, .int .i64 L] v fun e w' => e = .returned (.int .i64 s) ∧ Below v.heap.size v w') := Lib.hid (by intro v; rw [← hs]; exact eSz_any k L hk1 hL v)
  have HAB : Hid (allB s R (fun r => dat (p r)) = false) := Lib.hid (by
    obtain ⟨j, hj, hh, hne⟩ := hsz
    have hmem : j ∈ hereL has n := hereL_mem.2 ⟨hj, hh⟩
    obtain ⟨r, hr, he⟩ := List.mem_iff_getElem.1 hmem
    cases hb : allB s R (fun r => dat (p r)) with
    | false => rfl
    | true =>
      have := allB_yes.1 hb r (by omega)
      rw [hp] at this
      simp only [List.getD, List.getElem?_eq_getElem hr, Option.getD_some, he] at this
      exact absurd this hne)
  have HRN : R ≤ n := by rw [← hR]; exact hereL_le has n
  have hsum : (k : Int) + (m : Int) = (n : Int) := by omega
  have hnb := nat_eq_B (i := n) (p := n) rfl
  have hk2 : k ≤ 255 := by omega
  have hm2 : m ≤ 255 := by omega
  clear hn hs hR hp hsz h
  go_enter Tryz.func6, Tryz.ntmps6
  go_wp2_with fail
  refine (mayE_any k m L (by omega) _).mono ?_
  rintro e w' ⟨rfl, rfl⟩
  rw [HM.out]
  go_wp2_with fail
  refine HTH.out.mono ?_
  rintro e w1 ⟨a1, c1, a2, c2, rfl, hf, hb1⟩
  have HB1 := Lib.hid hb1
  have HTX : Hid (TX a2 R (fun r => dat (p r)) w1) := Lib.hid (fun h0 => by
    obtain ⟨g1, g2, _, e2, _, _, _, hl2, _, ht2⟩ := hf h0
    exact ⟨g2, 0, e2, hl2, ht2⟩)
  clear hf hb1 HTH
  go_wp2_with fail
  refine (HZ.out _).mono ?_
  rintro e w2 ⟨rfl, hb2⟩
  have HB2 := Lib.hid (HB1.out.trans (hb2.mono HB1.out.size))
  have HTX2 := Lib.hid (HTX.out.below hb2)
  clear hb2 HB1 HTX HZ
  go_wp2_with fail
  refine (allHave_any s R c2 a2 (fun r => dat (p r)) (by omega) _ HTX2.out).mono ?_
  rintro e w' ⟨rfl, rfl⟩
  rw [HAB.out]
  go_wp2_with fail
  refine (eFault_any 19 _).mono ?_
  rintro e w3 ⟨rfl, hF, hb3⟩
  have HF := Lib.hid hF
  have HB3 := Lib.hid (HB2.out.trans (hb3.mono HB2.out.size))
  clear hF hb3
  go_wp2_with fail
  go_ret2
  exact ⟨_, rfl, HF.out, HB3.out⟩
set_option maxHeartbeats 1000000 in
theorem Check_len (k m n cap : Nat) (a0 : Option Addr) (hk1 : 1 ≤ k) (hkm : k + m ≤ 255) (hne : n ≠ k + m) (w : World) :
    Calls Tryz.prog 12 #[.int .i64 k, .int .i64 m, .slice a0 n cap] w fun e w' => ∃ g, e = .returned (.tuple #[.bool false, faultV g]) ∧ FaultAt g 19 0 w' ∧ Below w.heap.size w w' := by
  obtain ⟨N, hN⟩ : ∃ N, k + m = N := ⟨_, rfl⟩
  have HM : Hid (mayE k m 0 = true) := Lib.hid (mayE_yes (n := N) (L := 0) hk1 hN (by omega))
  have hsum : (k : Int) + (m : Int) = (N : Int) := by omega
  have hnb := nat_ne_B (i := n) (p := N) (by omega)
  have hk2 : k ≤ 255 := by omega
  have hm2 : m ≤ 255 := by omega
  clear hN hne
  go_enter Tryz.func12, Tryz.ntmps12
  go_wp2_with fail
  refine (mayE_any k m 0 (by omega) _).mono ?_
  rintro e w' ⟨rfl, rfl⟩
  rw [HM.out]
  go_wp2_with fail
  refine (eFault_any 19 _).mono ?_
  rintro e w2 ⟨rfl, hF, hb⟩
  have HF := Lib.hid hF
  have HB := Lib.hid hb
  clear hF hb
  go_wp2_with fail
  go_ret2
  exact ⟨_, rfl, HF.out, HB.out⟩
set_option maxHeartbeats 1000000 in
theorem Check_size (k m n b o cap : Nat) (f : Nat → ByteArray) (hk1 : 1 ≤ k) (hn : k + m = n) (hkm : n ≤ 255) (hf : ∃ j, j < n ∧ (f j).size ≠ (f 0).size) (w : World) (h : Texts b o n f w) (hl : b < w.heap.size) :
    Calls Tryz.prog 12 #[.int .i64 k, .int .i64 m, .slice (some ⟨b, o, none⟩) n cap] w fun e w' => ∃ g, e = .returned (.tuple #[.bool false, faultV g]) ∧ FaultAt g 19 0 w' ∧ Below w.heap.size w w' := by
  have HM : Hid (mayE k m 0 = true) := Lib.hid (mayE_yes (L := 0) hk1 hn hkm)
  obtain ⟨s, hs⟩ : ∃ s, s = (f 0).size := ⟨_, rfl⟩
  have HH : Hid (∀ v, Below w.heap.size w v → Calls Tryz.prog 19 #[.int .i64 s, .slice (some ⟨b, o, none⟩) n cap] v fun e w' => e = .returned (.bool false) ∧ v = w') := Lib.hid fun v hv => by
    have := allHave_any s n cap (some ⟨b, o, none⟩) f (by omega) v (fun _ => ⟨b, o, rfl, Nat.lt_of_lt_of_le hl hv.size, h.keep (hv.block b hl)⟩)
    rw [show allB s n f = false by
      cases hb : allB s n f with
      | false => rfl
      | true =>
        obtain ⟨j, hj, hne⟩ := hf
        exact absurd (allB_yes.1 hb j hj) (by rw [hs]; exact hne)] at this
    exact this
  obtain ⟨x, hx⟩ : ∃ x, x = f 0 := ⟨_, rfl⟩
  have c0 : w.cell? ⟨b, o, none⟩ = some (.string x) := by rw [hx]; exact h 0 (by omega)
  have hxs : x.size = s := by rw [hx, hs]
  have hsum : (k : Int) + (m : Int) = (n : Int) := by omega
  have hnb := nat_eq_B (i := n) (p := n) rfl
  have hk2 : k ≤ 255 := by omega
  have hm2 : m ≤ 255 := by omega
  have hn1 : 1 ≤ n := by omega
  clear hn h hf hx hs
  go_enter Tryz.func12, Tryz.ntmps12
  go_wp2_with fail
  refine (mayE_any k m 0 (by omega) _).mono ?_
  rintro e w' ⟨rfl, rfl⟩
  rw [HM.out]
  go_wp2_with fail
  refine (HH.out _ (Below.refl _ _)).mono ?_
  rintro e w' ⟨rfl, rfl⟩
  go_wp2_with fail
  refine (eFault_any 19 _).mono ?_
  rintro e w2 ⟨rfl, hF, hb⟩
  have HF := Lib.hid hF
  have HB := Lib.hid hb
  clear hF hb
  go_wp2_with fail
  go_ret2
  exact ⟨_, rfl, HF.out, HB.out⟩
set_option maxHeartbeats 1000000 in
theorem Join_size (k n s L b o cap : Nat) (f : Nat → ByteArray) (hk1 : 1 ≤ k) (hk2 : k ≤ 255) (hkn : k ≤ n) (hcap : n ≤ cap) (hs : szN k L = s) (hL : (L : Int) ≤ 9223372036854775807) (hf : ∃ j, j < k ∧ (f j).size ≠ s) (w : World) (h : Texts b o n f w) (hl : b < w.heap.size) :
    Calls Tryz.prog 10 #[.int .i64 k, .int .i64 L, .slice (some ⟨b, o, none⟩) n cap] w fun e w' => ∃ g, e = .returned (.tuple #[.string ⟨#[]⟩, faultV g]) ∧ FaultAt g 19 0 w' ∧ Below w.heap.size w w' := by
  have HM : Hid (mayE k 0 L = true) := Lib.hid (mayE_yes (m := 0) hk1 rfl hk2)
  have hlt : ¬ (n : Int) < (k : Int) := by omega
  have hltN : ¬ n < k := by omega
  have hltb : decide ((n : Int) < (k : Int)) = false := decide_eq_false hlt
  have hltc : decide (n < k) = false := decide_eq_false hltN
  have hkc : k ≤ cap := by omega
  have HZ : Hid (∀ v, Calls Tryz.prog 20 #[.int .i64 k, .int .i64 L] v fun e w' => e = .returned (.int .i64 s) ∧ Below v.heap.size v w') := Lib.hid (by intro v; rw [← hs]; exact eSz_any k L hk1 hL v)
  have HH : Hid (∀ v, Below w.heap.size w v → Calls Tryz.prog 19 #[.int .i64 s, .slice (some ⟨b, o, none⟩) k cap] v fun e w' => e = .returned (.bool false) ∧ v = w') := Lib.hid fun v hv => by
    have := allHave_any s k cap (some ⟨b, o, none⟩) f (by omega) v (fun _ => ⟨b, o, rfl, Nat.lt_of_lt_of_le hl hv.size, fun j hj => (h.keep (hv.block b hl)) j (by omega)⟩)
    rw [show allB s k f = false by
      cases hb : allB s k f with
      | false => rfl
      | true =>
        obtain ⟨j, hj, hne⟩ := hf
        exact absurd (allB_yes.1 hb j hj) hne] at this
    exact this
  clear hs h hf
  go_enter Tryz.func10, Tryz.ntmps10
  go_wp2_with fail
  refine (mayE_any k 0 L (by omega) _).mono ?_
  rintro e w' ⟨rfl, rfl⟩
  rw [HM.out]
  go_wp2_with fail
  obtain ⟨S, hS⟩ : ∃ S : World → Prop, S = fun v => Below w.heap.size w v := ⟨_, rfl⟩
  have hSb : ∀ v v', S v → Below v.heap.size v v' → S v' := by rw [hS]; exact fun v v' hv hb => hv.trans (hb.mono hv.size)
  have SC1 := Lib.hid (quiet_S hSb (f := 20) (args := #[.int .i64 k, .int .i64 L]) (v := .int .i64 s) (fun v _ => HZ.out v))
  have SC2 := Lib.hid (quiet_S hSb (f := 19) (args := #[.int .i64 s, .slice (some ⟨b, o, none⟩) k cap]) (v := .bool false) (fun v hv => (HH.out v (by rw [hS] at hv; exact hv)).mono fun _ _ ⟨he, hw⟩ => ⟨he, hw ▸ Below.refl _ _⟩))
  have S4 : S w.drew := by rw [hS]; exact (Below.refl _ _).drew
  have HS4 := Lib.hid S4
  haveI : Nonempty (Of S) := ⟨⟨_, S4⟩⟩
  have HSS := Lib.hid hS
  clear S4 hS hSb HZ HH HM
  refine wp_region_S S (by kernel_rfl) (by kernel_rfl) HS4.out ?_
  repeat (go_big_quiet_step (first | (go_at_call 20; with_reducible exact SC1.out _) | (go_at_call 19; with_reducible exact SC2.out _)))
  refine wpQuiet_nil ?_
  rintro w7 ⟨u7, e7⟩
  have h7 : S w7 := e7 ▸ u7.ok
  rw [HSS.out] at h7
  have HB7 := Lib.hid h7
  clear e7 u7 h7 this SC1 SC2 HS4 HSS
  go_wp2_with fail
  refine (eFault_any 19 _).mono ?_
  rintro e w2 ⟨rfl, hF, hb⟩
  have HF := Lib.hid hF
  have HB := Lib.hid (HB7.out.trans (hb.mono HB7.out.size))
  clear hF hb
  go_wp2_with fail
  go_ret2
  exact ⟨_, rfl, HF.out, HB.out⟩
set_option maxHeartbeats 1000000 in
theorem Join_len (k n L cap : Nat) (a0 : Option Addr) (hk1 : 1 ≤ k) (hk2 : k ≤ 255) (hkn : n < k) (w : World) :
    Calls Tryz.prog 10 #[.int .i64 k, .int .i64 L, .slice a0 n cap] w fun e w' => ∃ g, e = .returned (.tuple #[.string ⟨#[]⟩, faultV g]) ∧ FaultAt g 19 0 w' ∧ Below w.heap.size w w' := by
  have HM : Hid (mayE k 0 L = true) := Lib.hid (mayE_yes (m := 0) hk1 rfl hk2)
  have hlt : (n : Int) < (k : Int) := by omega
  have hltb : decide ((n : Int) < (k : Int)) = true := decide_eq_true hlt
  have hltc : decide (n < k) = true := decide_eq_true hkn
  go_enter Tryz.func10, Tryz.ntmps10
  go_wp2_with fail
  refine (mayE_any k 0 L (by omega) _).mono ?_
  rintro e w' ⟨rfl, rfl⟩
  rw [HM.out]
  go_wp2_with fail
  go_quiet (fail)
  go_wp2_with fail
  refine (eFault_any 19 _).mono ?_
  rintro e w2 ⟨rfl, hF, hb⟩
  have HF := Lib.hid hF
  have HB := Lib.hid hb
  clear hF hb
  go_wp2_with fail
  go_ret2
  exact ⟨_, rfl, HF.out, by first | exact HB.out | exact Below.trans (below_drewN (Below.refl _ _) _) HB.out⟩
end Go.Proofs.YteanbflbclmeeaaGreat

/- Erasure: the document's own Join and Check. -/
namespace Go.Proofs.YteanbflbclmeeaaGreat
open Go.RowKit

theorem catT_zero (f : Nat → ByteArray) : catT f 0 = ⟨#[]⟩ := by unfold catT listT; rfl
theorem catT_succ (f : Nat → ByteArray) (i : Nat) : catT f (i + 1) = catT f i ++ f i := by
  apply ByteArray.ext
  apply Array.toList_inj.1
  rw [ByteArray.data_append, Array.toList_append, catT_list, catT_list]
  unfold listT
  rw [List.range_succ, List.map_append, List.flatMap_append]
  simp
theorem r8Check_bad (k m : Int) (a0 : Option Addr) (n cap : Nat) (h : mayE k m 0 = false) (w : World) : Calls Tryz.prog 13 #[.int .i64 k, .int .i64 m, .slice a0 n cap] w fun e w' => e = .returned (.tuple #[.bool false, .int .i64 1]) ∧ w = w' := by
  go_enter Tryz.func13, Tryz.ntmps13
  go_wp2_with fail
  refine (wrong_any k m 0 _).mono ?_
  rintro e w' ⟨rfl, rfl⟩
  rw [h]
  go_wp2_with fail
  go_ret2
  exact ⟨rfl, rfl⟩
theorem r8Check_len (k m n cap : Nat) (a0 : Option Addr) (hk1 : 1 ≤ k) (hkm : k + m ≤ 255) (hne : n ≠ k + m) (w : World) : Calls Tryz.prog 13 #[.int .i64 k, .int .i64 m, .slice a0 n cap] w fun e w' => e = .returned (.tuple #[.bool false, .int .i64 19]) ∧ w = w' := by
  obtain ⟨N, hN⟩ : ∃ N, k + m = N := ⟨_, rfl⟩
  have HM : Hid (mayE k m 0 = true) := Lib.hid (mayE_yes (n := N) (L := 0) hk1 hN (by omega))
  have hsum : (k : Int) + (m : Int) = (N : Int) := by omega
  have hnb := nat_ne_B (i := n) (p := N) (by omega)
  have hk2 : k ≤ 255 := by omega
  have hm2 : m ≤ 255 := by omega
  clear hN hne
  go_enter Tryz.func13, Tryz.ntmps13
  go_wp2_with fail
  refine (wrong_any k m 0 _).mono ?_
  rintro e w' ⟨rfl, rfl⟩
  rw [HM.out]
  go_wp2_with fail
  go_ret2
  exact ⟨rfl, rfl⟩
theorem r8Join_bad (k L : Int) (a0 : Option Addr) (n cap : Nat) (h : mayE k 0 L = false) (w : World) : Calls Tryz.prog 11 #[.int .i64 k, .int .i64 L, .slice a0 n cap] w fun e w' => e = .returned (.tuple #[.string ⟨#[]⟩, .int .i64 1]) ∧ w = w' := by
  go_enter Tryz.func11, Tryz.ntmps11
  go_wp2_with fail
  refine (wrong_any k 0 L _).mono ?_
  rintro e w' ⟨rfl, rfl⟩
  rw [h]
  go_wp2_with fail
  go_ret2
  exact ⟨rfl, rfl⟩
theorem r8Join_len (k n L cap : Nat) (a0 : Option Addr) (hk1 : 1 ≤ k) (hk2 : k ≤ 255) (hL : (L : Int) ≤ 9223372036854775807) (hkn : n < k) (w : World) : Calls Tryz.prog 11 #[.int .i64 k, .int .i64 L, .slice a0 n cap] w fun e w' => e = .returned (.tuple #[.string ⟨#[]⟩, .int .i64 19]) ∧ w = w' := by
  have HM : Hid (mayE k 0 L = true) := Lib.hid (mayE_yes (m := 0) hk1 rfl hk2)
  have HZ := Lib.hid (fun v => r8Size_ok k L hk1 hk2 hL v)
  have hlt : (n : Int) < (k : Int) := by omega
  go_enter Tryz.func11, Tryz.ntmps11
  go_wp2_with fail
  refine (wrong_any k 0 L _).mono ?_
  rintro e w' ⟨rfl, rfl⟩
  rw [HM.out]
  go_wp2_with fail
  refine (HZ.out _).mono ?_
  rintro e w' ⟨rfl, rfl⟩
  go_wp2_with fail
  go_ret2
  exact ⟨rfl, rfl⟩
set_option maxHeartbeats 1000000 in
/-- Its loop: stopped at the first one of another size, or whole. -/
theorem r8Join_loop (k n s L b o cap q : Nat) (f : Nat → ByteArray) (hk1 : 1 ≤ k) (hk2 : k ≤ 255) (hkn : k ≤ n) (hs : szN k L = s) (hL : (L : Int) ≤ 9223372036854775807) (hsm : 0 < q → s ≤ 500) (hq : q ≤ k) (hqf : ∀ j, j < q → (f j).size = s) (hqn : q < k → (f q).size ≠ s) (w : World) (h : Texts b o n f w) (hl : b < w.heap.size) :
    Calls Tryz.prog 11 #[.int .i64 k, .int .i64 L, .slice (some ⟨b, o, none⟩) n cap] w fun e w' => (q < k ∧ e = .returned (.tuple #[.string ⟨#[]⟩, .int .i64 19]) ∨ q = k ∧ e = .returned (.tuple #[.string ((catT f k).extract 0 L), .int .i64 0])) ∧ w = w' := by
  have HM : Hid (mayE k 0 L = true) := Lib.hid (mayE_yes (m := 0) hk1 rfl hk2)
  have HZ : Hid (∀ v, Calls Tryz.prog 24 #[.int .i64 k, .int .i64 L] v fun e w' => e = .returned (.tuple #[.int .i64 s, .int .i64 0]) ∧ v = w') := Lib.hid (fun v => by
    have := r8Size_ok k L hk1 hk2 hL v
    rw [hs] at this; exact this)
  have hlt : ¬ (n : Int) < (k : Int) := by omega
  have HL : Hid (L ≤ k * s) := Lib.hid (by have := szN_ge hk1 L; rw [hs] at this; exact this)
  have HT := Lib.hid h
  have HQ := Lib.hid hqf
  have HN := Lib.hid hqn
  have HS5 := Lib.hid hsm
  clear hs h hqf hqn hsm
  go_enter Tryz.func11, Tryz.ntmps11
  go_wp2_with fail
  refine (wrong_any k 0 L _).mono ?_
  rintro e w' ⟨rfl, rfl⟩
  rw [HM.out]
  go_wp2_with fail
  refine (HZ.out _).mono ?_
  rintro e w' ⟨rfl, rfl⟩
  go_wp2_with fail
  go_loopw [11, 12] (fun sv iv wr => ∃ i : Nat, i ≤ q ∧ iv = .int .i64 i ∧ sv = .string (catT f i) ∧ wr = w) (fun _ iv _ => k - (intOf iv).toNat)
  case atStart => exact ⟨0, by omega, rfl, by rw [catT_zero], rfl⟩
  case round =>
    obtain ⟨i, hi, rfl, rfl, rfl⟩ := hrel
    by_cases hlk : i < k
    · obtain ⟨x, hx⟩ : ∃ x, x = f i := ⟨_, rfl⟩
      have c0 : wr.cell? ⟨b, o + i, none⟩ = some (.string x) := by rw [hx]; exact HT.out i (by omega)
      have hin : i < n := by omega
      by_cases hiq : i < q
      · have hb := nat_eq_B (i := x.size) (p := s) (by rw [hx, HQ.out i hiq])
        obtain ⟨T, hT⟩ : ∃ T, T = catT f i := ⟨_, rfl⟩
        have hsm := HS5.out (by omega)
        have hTs : T.size ≤ 127500 := by
          rw [hT, catT_size fun j hj => HQ.out j (by omega)]
          exact Nat.le_trans (Nat.mul_le_mul (show i ≤ 255 by omega) hsm) (by decide)
        have hxs : x.size ≤ 500 := by rw [hx, HQ.out i hiq]; exact hsm
        have HTT : Hid (T ++ x = catT f (i + 1)) := Lib.hid (by rw [hT, hx, catT_succ])
        have hadd : ¬ 9223372036854775807 < T.size + x.size := by omega
        rw [← hT]
        clear hx hT
        go_wp2_with fail
        go_roundw
        case rel => exact ⟨i + 1, by omega, by go_num, by rw [HTT.out], trivial⟩
        case measure => simp [intOf]; omega
      · obtain rfl : i = q := by omega
        have hb := nat_ne_B (i := x.size) (p := s) (by rw [hx]; exact HN.out hlk)
        clear hx
        go_wp2_with fail
        go_ret2
        exact ⟨.inl ⟨hlk, rfl⟩, rfl⟩
    · obtain rfl : k = i := by omega
      obtain rfl : q = k := by omega
      have hTs : (catT f q).size = q * s := catT_size HQ.out
      have hsm := HS5.out (by omega)
      have hle : L ≤ (catT f q).size := by rw [hTs]; exact HL.out
      have hbd : (catT f q).size ≤ 127500 := by rw [hTs]; exact Nat.le_trans (Nat.mul_le_mul hk2 hsm) (by decide)
      clear hTs
      go_wp2_with fail
      go_ret2
      first | exact ⟨.inr ⟨rfl, rfl⟩, rfl⟩ | exact ⟨rfl, rfl⟩
/-- All are what the first k make. -/
theorem chk_all {k m s : Nat} {f : Nat → ByteArray} (hf : ∀ j, j < k + m → (f j).size = s) : chkB k m s f = true ↔ ∀ i, i < k + m → shT k s (fun j => strAt (f j)) i = f i := by
  rw [chkB_eq, decide_eq_true_eq]
  constructor
  · intro h i hi
    rw [← allT_sh fun j hj => hf j (by omega)]
    by_cases hk : i < k
    · rw [allT_lo hk]
    · rw [allT_hi (by omega), h (i - k) (by omega), show k + (i - k) = i by omega]
  · intro h i hi
    have := h (k + i) (by omega)
    rw [← allT_sh fun j hj => hf j (by omega), allT_hi (by omega), show k + i - k = i by omega] at this
    exact this
set_option maxHeartbeats 1000000 in
theorem r8Check_size (k m n b o cap q : Nat) (f : Nat → ByteArray) (hk1 : 1 ≤ k) (hn : k + m = n) (hkm : n ≤ 255) (hq : q < n) (hqf : ∀ j, j < q → (f j).size = (f 0).size) (hqn : (f q).size ≠ (f 0).size) (w : World) (h : Texts b o n f w) (hl : b < w.heap.size) :
    Calls Tryz.prog 13 #[.int .i64 k, .int .i64 m, .slice (some ⟨b, o, none⟩) n cap] w fun e w' => e = .returned (.tuple #[.bool false, .int .i64 19]) ∧ Below w.heap.size w w' := by
  have HM : Hid (mayE k m 0 = true) := Lib.hid (mayE_yes (L := 0) hk1 hn hkm)
  have hsum : (k : Int) + (m : Int) = (n : Int) := by omega
  have hnb := nat_eq_B (i := n) (p := n) rfl
  have hk2 : k ≤ 255 := by omega
  have hm2 : m ≤ 255 := by omega
  obtain ⟨x0, hx0⟩ : ∃ x, x = f 0 := ⟨_, rfl⟩
  rw [← hx0] at hqf hqn
  have HX := Lib.hid hx0
  have HT := Lib.hid h
  have HQ := Lib.hid hqf
  have HN := Lib.hid hqn
  have HN0 := Lib.hid hn
  clear hn h hqf hqn hx0
  go_enter Tryz.func13, Tryz.ntmps13
  go_wp2_with fail
  refine (wrong_any k m 0 _).mono ?_
  rintro e w' ⟨rfl, rfl⟩
  rw [HM.out]
  go_wp2_with fail
  go_loopw [9] (fun iv wr => ∃ i : Nat, i ≤ q ∧ iv = .int .i64 i ∧ Below w.heap.size w wr) (fun iv _ => n - (intOf iv).toNat)
  case atStart => exact ⟨0, by omega, rfl, Below.refl _ _⟩
  case round =>
    obtain ⟨i, hi, rfl, hB⟩ := hrel
    have HB := Lib.hid hB
    clear hB
    have hlt : i < n := by omega
    have hn0 : 0 < n := by omega
    obtain ⟨x, hx⟩ : ∃ x, x = f i := ⟨_, rfl⟩
    have c0 : wr.cell? ⟨b, o + i, none⟩ = some (.string x) := by rw [hx]; exact (HB.out.cell (p := ⟨b, o + i, none⟩) hl).trans (HT.out i hlt)
    have c1 : wr.cell? ⟨b, o, none⟩ = some (.string x0) := by rw [HX.out]; exact (HB.out.cell (p := ⟨b, o, none⟩) hl).trans (HT.out 0 hn0)
    by_cases hiq : i < q
    · have hb := nat_eq_B (i := x.size) (p := x0.size) (by rw [hx]; exact HQ.out i hiq)
      clear hx
      go_wp2_with fail
      go_quiet (fail)
      go_wp2_with fail
      go_roundw
      case rel => exact ⟨i + 1, by omega, by go_num, by first | exact HB.out | exact below_drewN HB.out _⟩
      case measure => simp [intOf]; omega
    · obtain rfl : i = q := by omega
      have hb := nat_ne_B (i := x.size) (p := x0.size) (by rw [hx]; exact HN.out)
      clear hx
      go_wp2_with fail
      go_quiet (fail)
      go_wp2_with fail
      go_ret2
      exact ⟨rfl, by first | exact HB.out | exact below_drewN HB.out _⟩
set_option maxHeartbeats 1000000 in
/-- Its second loop stops at the first one that is another. -/
theorem r8Check_ok (k m n s b o cap q : Nat) (f : Nat → ByteArray) (hk1 : 1 ≤ k) (hn : k + m = n) (hkm : n ≤ 255) (hcap : n ≤ cap) (hsm : s ≤ 1000000) (hf : ∀ j, j < n → (f j).size = s) (hq : q ≤ n) (hqf : ∀ j, j < q → shT k s (fun j => strAt (f j)) j = f j) (hqn : q < n → shT k s (fun j => strAt (f j)) q ≠ f q) (w : World) (h : Texts b o n f w) (hl : b < w.heap.size) :
    Calls Tryz.prog 13 #[.int .i64 k, .int .i64 m, .slice (some ⟨b, o, none⟩) n cap] w fun e w' => (q < n ∧ e = .returned (.tuple #[.bool false, .int .i64 0]) ∨ q = n ∧ e = .returned (.tuple #[.bool true, .int .i64 0])) ∧ Below w.heap.size w w' := by
  have HM : Hid (mayE k m 0 = true) := Lib.hid (mayE_yes (L := 0) hk1 hn hkm)
  have hsum : (k : Int) + (m : Int) = (n : Int) := by omega
  have hnb := nat_eq_B (i := n) (p := n) rfl
  have hk2 : k ≤ 255 := by omega
  have hm2 : m ≤ 255 := by omega
  have hkc : k ≤ cap := by omega
  have HA := Lib.hid (fun v (hv : Below w.heap.size w v) => apply8_any k m n s b cap f hk1 hn hkm hsm (fun j hj => hf j (by omega)) o v (fun j hj => (h.keep (hv.block b hl)) j (by omega)) (Nat.lt_of_lt_of_le hl hv.size))
  obtain ⟨F, hF⟩ : ∃ F, F = shT k s (fun j => strAt (f j)) := ⟨_, rfl⟩
  rw [← hF] at HA hqf hqn
  obtain ⟨x0, hx0⟩ : ∃ x, x = f 0 := ⟨_, rfl⟩
  have HX := Lib.hid hx0
  have HT := Lib.hid h
  have HQ := Lib.hid hqf
  have HN := Lib.hid hqn
  have HF := Lib.hid hf
  clear hn h hqf hqn hF hf hx0
  go_enter Tryz.func13, Tryz.ntmps13
  go_wp2_with fail
  refine (wrong_any k m 0 _).mono ?_
  rintro e w' ⟨rfl, rfl⟩
  rw [HM.out]
  go_wp2_with fail
  go_loopw [9] (fun iv wr => ∃ i : Nat, i ≤ n ∧ iv = .int .i64 i ∧ Below w.heap.size w wr) (fun iv _ => n - (intOf iv).toNat)
  case atStart => exact ⟨0, by omega, rfl, Below.refl _ _⟩
  case round =>
    obtain ⟨i, hi, rfl, hB⟩ := hrel
    have HB := Lib.hid hB
    clear hB
    by_cases hlt : i < n
    · have hn0 : 0 < n := by omega
      obtain ⟨x, hx⟩ : ∃ x, x = f i := ⟨_, rfl⟩
      have c0 : wr.cell? ⟨b, o + i, none⟩ = some (.string x) := by rw [hx]; exact (HB.out.cell (p := ⟨b, o + i, none⟩) hl).trans (HT.out i hlt)
      have c1 : wr.cell? ⟨b, o, none⟩ = some (.string x0) := by rw [HX.out]; exact (HB.out.cell (p := ⟨b, o, none⟩) hl).trans (HT.out 0 hn0)
      have hb := nat_eq_B (i := x.size) (p := x0.size) (by rw [hx, HX.out, HF.out i hlt, HF.out 0 hn0])
      clear hx
      go_wp2_with fail
      go_quiet (fail)
      go_wp2_with fail
      go_roundw
      case rel => exact ⟨i + 1, by omega, by go_num, by first | exact HB.out | exact below_drewN HB.out _⟩
      case measure => simp [intOf]; omega
    · obtain rfl : i = n := by omega
      go_wp2_with fail
      refine (HA.out _ HB.out).mono ?_
      rintro e w2 ⟨g, c, rfl, hC, hb2⟩
      have HC := Lib.hid hC
      have HB2 := Lib.hid (HB.out.trans (hb2.mono HB.out.size))
      clear hC hb2 HA HB
      go_wp2_with fail
      go_loopw [11] (fun iv wr' => ∃ j : Nat, j ≤ q ∧ iv = .int .i64 j ∧ Below w.heap.size w wr' ∧ ColT g i F wr') (fun iv _ => i - (intOf iv).toNat)
      case atStart => exact ⟨0, by omega, rfl, HB2.out, HC.out⟩
      case round =>
        obtain ⟨j, hj, rfl, hB, hC⟩ := hrel
        have HB := Lib.hid hB
        have HC := Lib.hid hC
        clear hB hC HB2
        by_cases hjn : j < i
        · obtain ⟨x, hx⟩ : ∃ x, x = f j := ⟨_, rfl⟩
          obtain ⟨y, hy⟩ : ∃ y, y = F j := ⟨_, rfl⟩
          have c0 := (HB.out.cell (p := ⟨b, o + j, none⟩) hl).trans (HT.out j hjn)
          have c1 := HC.out.t j hjn
          rw [← hx] at c0
          rw [← hy, Nat.zero_add] at c1
          by_cases hjq : j < q
          · obtain rfl : y = x := by rw [hx, hy]; exact HQ.out j hjq
            clear hx hy
            go_wp2_with fail
            go_quiet (fail)
            go_wp2_with fail
            go_roundw
            case rel => exact ⟨j + 1, by omega, by go_num, by first | exact HB.out | exact below_drewN HB.out _, by first | exact HC.out | exact HC.out.below (below_drewN (Below.refl _ _) _)⟩
            case measure => simp [intOf]; omega
          · obtain rfl : j = q := by omega
            have hne : (y.toList == x.toList) = false := by
              rw [ByteArray.toList_eq, ByteArray.toList_eq, beq_eq_false_iff_ne]
              exact fun e => HN.out hjn (by rw [← hx, ← hy]; exact ByteArray.ext (Array.toList_inj.1 e))
            clear hx hy
            go_wp2_with fail
            go_quiet (fail)
            go_wp2_with fail
            go_ret2
            exact ⟨.inl ⟨hjn, rfl⟩, by first | exact HB.out | exact below_drewN HB.out _⟩
        · go_wp2_with fail
          go_ret2
          exact ⟨.inr ⟨by omega, rfl⟩, HB.out⟩
end Go.Proofs.YteanbflbclmeeaaGreat

/- Erasure: the document's own Restore. -/
namespace Go.Proofs.YteanbflbclmeeaaGreat
open Go.RowKit

theorem r8Restore_bad (k m L : Int) (a0 : Option Addr) (n cap : Nat) (h : mayE k m L = false) (w : World) : Calls Tryz.prog 7 #[.int .i64 k, .int .i64 m, .int .i64 L, .slice a0 n cap] w fun e w' => e = .returned (.tuple #[.slice none 0 0, .int .i64 1]) ∧ w = w' := by
  go_enter Tryz.func7, Tryz.ntmps7
  go_wp2_with fail
  refine (wrong_any k m L _).mono ?_
  rintro e w' ⟨rfl, rfl⟩
  rw [h]
  go_wp2_with fail
  go_ret2
  exact ⟨rfl, rfl⟩
theorem r8Restore_len (k m L n cap : Nat) (a0 : Option Addr) (hk1 : 1 ≤ k) (hkm : k + m ≤ 255) (hL : (L : Int) ≤ 9223372036854775807) (hne : n ≠ k + m) (w : World) : Calls Tryz.prog 7 #[.int .i64 k, .int .i64 m, .int .i64 L, .slice a0 n cap] w fun e w' => e = .returned (.tuple #[.slice none 0 0, .int .i64 19]) ∧ w = w' := by
  obtain ⟨N, hN⟩ : ∃ N, k + m = N := ⟨_, rfl⟩
  have HM : Hid (mayE k m L = true) := Lib.hid (mayE_yes (n := N) hk1 hN (by omega))
  have HZ := Lib.hid (fun v => r8Size_ok k L hk1 (by omega) hL v)
  have hsum : (k : Int) + (m : Int) = (N : Int) := by omega
  have hnb := nat_ne_B (i := n) (p := N) (by omega)
  have hk2 : k ≤ 255 := by omega
  have hm2 : m ≤ 255 := by omega
  clear hN hne
  go_enter Tryz.func7, Tryz.ntmps7
  go_wp2_with fail
  refine (wrong_any k m L _).mono ?_
  rintro e w' ⟨rfl, rfl⟩
  rw [HM.out]
  go_wp2_with fail
  refine (HZ.out _).mono ?_
  rintro e w' ⟨rfl, rfl⟩
  go_wp2_with fail
  go_ret2
  exact ⟨rfl, rfl⟩
/-- The first k of those that are there. -/
@[irreducible] def firstK (has : Nat → Bool) (k i : Nat) : List Nat := (hereL has i).take k
theorem firstK_eq (has : Nat → Bool) (k i : Nat) : firstK has k i = (hereL has i).take k := by unfold firstK; rfl
theorem firstK_zero (has : Nat → Bool) (k : Nat) : firstK has k 0 = [] := by rw [firstK_eq, hereL_zero, List.take_nil]
theorem firstK_no {has : Nat → Bool} {k i : Nat} (h : has i = false) : firstK has k (i + 1) = firstK has k i := by rw [firstK_eq, firstK_eq, hereL_no h]
theorem firstK_add {has : Nat → Bool} {k i : Nat} (h : has i = true) (hk : (firstK has k i).length < k) : firstK has k (i + 1) = firstK has k i ++ [i] := by
  rw [firstK_eq] at hk
  rw [List.length_take] at hk
  rw [firstK_eq, firstK_eq, hereL_yes h, List.take_of_length_le (by rw [List.length_append]; simp; omega), List.take_of_length_le (by omega)]
theorem firstK_full {has : Nat → Bool} {k i : Nat} (h : has i = true) (hk : ¬ (firstK has k i).length < k) : firstK has k (i + 1) = firstK has k i := by
  rw [firstK_eq] at hk
  rw [List.length_take] at hk
  rw [firstK_eq, firstK_eq, hereL_yes h, List.take_append_of_le_length (by omega)]
theorem firstK_len (has : Nat → Bool) (k i : Nat) : (firstK has k i).length = min k (hereL has i).length := by rw [firstK_eq, List.length_take]
theorem firstK_at {has : Nat → Bool} {k n r : Nat} (hr : r < k) : (firstK has k n).getD r 0 = (hereL has n).getD r 0 := by rw [firstK_eq, List.getD, List.getD, List.getElem?_take, if_pos hr]
structure RsS (has : Nat → Bool) (dat : Nat → ByteArray) (k i : Nat) (v1 v2 : Value) (w0 w : World) : Prop where
  r : Own w0.heap.size v2 (firstK has k i) w
  t : OwnT w0.heap.size v1 ((firstK has k i).map dat) w
  old : Below w0.heap.size w0 w
/-- What it answers: the first one of another size ends it, fewer than k end it, or all shards. -/
def RsOut (k n s q : Nat) (has : Nat → Bool) (dat : Nat → ByteArray) (e : Ending) (w : World) : Prop :=
  (q < n ∧ e = .returned (.tuple #[.slice none 0 0, .int .i64 19])) ∨
  (q = n ∧ (hereL has n).length < k ∧ e = .returned (.tuple #[.slice none 0 0, .int .i64 17])) ∨
  (q = n ∧ k ≤ (hereL has n).length ∧ ∃ g c, e = .returned (.tuple #[.slice (some ⟨g, 0, none⟩) n c, .int .i64 0]) ∧ ColT g n (shT k s fun i => strAt (solT k s (fun r => (hereL has n).getD r 0) (fun r => dat ((hereL has n).getD r 0)) i)) w)
set_option maxRecDepth 20000 in
set_option maxHeartbeats 4000000 in
theorem r8Restore_any (k m n s L cap q : Nat) (a0 : Option Addr) (has : Nat → Bool) (dat : Nat → ByteArray) (hk1 : 1 ≤ k) (hn : k + m = n) (hkm : n ≤ 255) (hL : (L : Int) ≤ 9223372036854775807) (hs : szN k L = s) (hsm : q = n → k ≤ (hereL has n).length → s ≤ 1000000)
    (hq : q ≤ n) (hqf : ∀ j, j < q → has j = true → (dat j).size = s) (hqn : q < n → has q = true ∧ (dat q).size ≠ s) (w : World) (h : PX a0 n has dat w) :
    Calls Tryz.prog 7 #[.int .i64 k, .int .i64 m, .int .i64 L, .slice a0 n cap] w fun e w' => RsOut k n s q has dat e w' ∧ Below w.heap.size w w' := by
  have hk2 : k ≤ 255 := by omega
  have hm2 : m ≤ 255 := by omega
  have HM : Hid (mayE k m L = true) := Lib.hid (mayE_yes hk1 hn hkm)
  have HZ : Hid (∀ v, Calls Tryz.prog 24 #[.int .i64 k, .int .i64 L] v fun e w' => e = .returned (.tuple #[.int .i64 s, .int .i64 0]) ∧ v = w') := Lib.hid (fun v => by
    have := r8Size_ok k L hk1 hk2 hL v
    rw [hs] at this; exact this)
  obtain ⟨N, hN⟩ : ∃ N, n * k = N := ⟨_, rfl⟩
  obtain ⟨N2, hN2⟩ : ∃ N, k * k = N := ⟨_, rfl⟩
  have HR := Lib.hid (fun v => rows_any k m n N hk1 hn hkm hN v)
  have HN := Lib.hid hN
  have HN2 := Lib.hid hN2
  have HSUM := Lib.hid hn
  have H := Lib.hid h
  have HQ := Lib.hid hqf
  have HQN := Lib.hid hqn
  have HSM := Lib.hid hsm
  have hsum : (k : Int) + (m : Int) = (n : Int) := by omega
  have hnb := nat_eq_B (i := n) (p := n) rfl
  clear h hs hqf hqn hsm hN hN2 hn
  go_enter Tryz.func7, Tryz.ntmps7
  go_wp2_with fail
  refine (wrong_any k m L _).mono ?_
  rintro e w' ⟨rfl, rfl⟩
  rw [HM.out]
  go_wp2_with fail
  refine (HZ.out _).mono ?_
  rintro e w' ⟨rfl, rfl⟩
  go_wp2_with fail
  go_loopw [13, 14, 15] (fun v1 v2 iv wr => ∃ i : Nat, i ≤ q ∧ iv = .int .i64 i ∧ RsS has dat k i v1 v2 w wr) (fun _ _ iv _ => n - (intOf iv).toNat)
  case atStart => exact ⟨0, by omega, rfl, ⟨by rw [firstK_zero]; exact Own.nil _ _, by rw [firstK_zero]; exact OwnT.nil _ _, Below.refl _ _⟩⟩
  case round =>
    obtain ⟨i, hi, rfl, hT⟩ := hrel
    have HT := Lib.hid hT
    clear hT
    obtain ⟨l, hl⟩ : ∃ l, l = firstK has k i := ⟨_, rfl⟩
    have hlk : l.length ≤ k := by rw [hl, firstK_len]; omega
    have HLI := Lib.hid hl
    by_cases hlt : i < n
    · obtain ⟨b, o, rfl, hbl, hp⟩ := H.out (by omega)
      obtain ⟨d, hd⟩ : ∃ d, d = dat i := ⟨_, rfl⟩
      have c0 := (HT.out.old.cell (p := ⟨b, o + i * 2, none⟩) hbl).trans (hp i hlt).1
      have HC1 : Hid (∀ v, Below w.heap.size w v → v.cell? ⟨b, o + i * 2 + 1, none⟩ = some (.string d)) := Lib.hid fun v hv => by rw [hd]; exact (hv.cell (p := ⟨b, o + i * 2 + 1, none⟩) hbl).trans (hp i hlt).2
      have cd := HC1.out _ HT.out.old
      have HD := Lib.hid hd
      clear hp
      by_cases hh : has i = true
      · rw [hh] at c0
        by_cases hiq : i < q
        · have hb := nat_eq_B (i := d.size) (p := s) (by rw [hd]; exact HQ.out i hiq hh)
          have hsz := HT.out.old.size
          have hR := HT.out.r
          have hO := HT.out.t
          have hOld := HT.out.old
          rw [← hl] at hR hO
          obtain ⟨aT, cT, rfl, _⟩ := ownT_shape hO
          rw [List.length_map] at hO ⊢
          have HR1 := Lib.hid hR
          have HO1 := Lib.hid hO
          have HB0 := Lib.hid hOld
          obtain ⟨z, hz⟩ : ∃ z, z = l.length := ⟨_, rfl⟩
          rw [← hz] at HO1 hlk ⊢
          by_cases hzk : z < k
          · have HE : Hid (firstK has k (i + 1) = l ++ [i]) := Lib.hid (by rw [hl]; exact firstK_add hh (by rw [← hl, ← hz]; exact hzk))
            have HZL := Lib.hid hz
            have hML : z + 1 ≤ 1000000 := by omega
            clear hd hl hz hR hO hOld HT
            go_wp2_with (first | (refine wpList_append_strs rfl (.tmp 61) (.tmp 67) rfl w.heap.size _ (l.map dat) rfl (HO1.out.alloc _) ⟨wr.heap.size, 0, none⟩ 1 1 [d] rfl rfl (one_str wr d) (by rw [List.length_map, ← HZL.out]; exact hML) (by simp; omega) ?_; intro v1' w1 ho hg; have HB1 := Lib.hid (grown_belowT (HB0.out.alloc hsz _) (by simp; omega) (HO1.out.alloc _) hg.out); have HR2 := Lib.hid ((HR1.out.alloc _).kept hg.out (own_apart' HR1.out HO1.out)); have HO2 := Lib.hid ho.out; have hsz1 := HB1.out.size; clear ho hg; go_frame) | (refine wpList_append_ints rfl (.tmp 69) (.tmp 71) rfl w.heap.size _ l rfl (HR2.out.alloc _) ⟨w1.heap.size, 0, none⟩ 1 1 [i] rfl rfl (one_int w1 i) (by rw [← HZL.out]; exact hML) (by simp; omega) ?_; intro v2' w2 ho2 hg2; have HB2 := Lib.hid (grown_below (HB1.out.alloc hsz1 _) (by simp; omega) (HR2.out.alloc _) hg2.out); have HT2 := Lib.hid ((HO2.out.alloc _).kept hg2.out (own_apart HR2.out HO2.out)); have HR3 := Lib.hid ho2.out; clear ho2 hg2; go_frame))
            go_roundw
            case rel => exact ⟨i + 1, by omega, by go_num, ⟨by rw [HE.out]; exact HR3.out, by rw [HE.out, List.map_append, List.map_singleton, ← HD.out]; exact HT2.out, HB2.out⟩⟩
            case measure => simp [intOf]; omega
          · have HE : Hid (firstK has k (i + 1) = l) := Lib.hid (by rw [hl]; exact firstK_full hh (by rw [← hl, ← hz]; exact hzk))
            clear hd hl hz hR hO hOld
            go_wp2_with fail
            go_roundw
            case rel => exact ⟨i + 1, by omega, by go_num, ⟨by rw [HE.out]; exact HR1.out, by rw [HE.out]; exact HO1.out, HB0.out⟩⟩
            case measure => simp [intOf]; omega
        · obtain rfl : i = q := by omega
          have hb := nat_ne_B (i := d.size) (p := s) (by rw [hd]; exact (HQN.out hlt).2)
          clear hd
          go_wp2_with fail
          go_ret2
          exact ⟨.inl ⟨hlt, rfl⟩, HT.out.old⟩
      · have hh : has i = false := by simpa using hh
        rw [hh] at c0
        have hiq : i < q := by
          rcases Nat.lt_or_ge i q with h0 | h0
          · exact h0
          · obtain rfl : i = q := by omega
            rw [(HQN.out hlt).1] at hh; cases hh
        clear hd cd
        go_wp2_with fail
        go_roundw
        case rel => exact ⟨i + 1, by omega, by go_num, ⟨by rw [firstK_no hh]; exact HT.out.r, by rw [firstK_no hh]; exact HT.out.t, HT.out.old⟩⟩
        case measure => simp [intOf]; omega
    · obtain rfl : i = n := by omega
      obtain rfl : q = i := by omega
      obtain ⟨p, hp⟩ : ∃ p : Nat → Nat, p = fun r => (hereL has q).getD r 0 := ⟨_, rfl⟩
      obtain ⟨R, hRR⟩ : ∃ R, R = (hereL has q).length := ⟨_, rfl⟩
      have hR := HT.out.r
      have hO := HT.out.t
      have HB0 := Lib.hid HT.out.old
      rw [← hl] at hR hO
      obtain ⟨aT, cT, rfl, fT⟩ := ownT_shape hO
      obtain ⟨aI, cI, rfl, fI⟩ := own_shape hR
      obtain ⟨z, hz⟩ : ∃ z, z = l.length := ⟨_, rfl⟩
      have hzz : z = min k R := by rw [hz, hl, firstK_len, hRR]
      rw [List.length_map, ← hz] at fT ⊢
      rw [← hz] at fI
      by_cases hzk : z < k
      · have hRk : R < k := by omega
        have HRK : Hid ((hereL has q).length < k) := Lib.hid (by rw [← hRR]; exact hRk)
        clear fT fI hR hO hl hp hRR
        go_wp2_with fail
        go_ret2
        exact ⟨.inr (.inl ⟨rfl, HRK.out, rfl⟩), HB0.out⟩
      · obtain rfl : k = z := by omega
        have hkR : k ≤ R := by omega
        have hRn : R ≤ q := by rw [hRR]; exact hereL_le has q
        obtain ⟨gT, rfl, hcT, hglT, hTT⟩ := fT (by omega)
        obtain ⟨gI, rfl, hcI, hglI, hII⟩ := fI (by omega)
        have hpl : ∀ r, r < k → l.getD r 0 = p r := fun r hr => by rw [hl, hp, firstK_at hr]
        have hTT : Texts gT 0 k (fun r => dat (p r)) wr := fun r hr => by
          rw [hTT r hr]
          show some (Value.string ((l.map dat).getD r .empty)) = some (Value.string (dat (p r)))
          rw [← hpl r hr, List.getD, List.getElem?_map, List.getD, List.getElem?_eq_getElem (by omega)]; rfl
        have hII : Ints gI 0 k (fun r => (p r : Int)) wr := fun r hr => by
          rw [hII r hr]
          show some (Value.int .i64 ((l.getD r 0 : Nat) : Int)) = some (Value.int .i64 (p r))
          rw [hpl r hr]
        have HPN : Hid (∀ r, r < k → p r < q) := Lib.hid (fun r hr => by rw [hp]; exact (hereL_at (by omega)).1)
        have HPS : Hid (∀ r, r < k → (dat (p r)).size = s) := Lib.hid (fun r hr => by
          have := hereL_at (has := has) (n := q) (r := r) (by omega)
          rw [hp]; exact HQ.out _ this.1 this.2)
        have HK : Hid (rk k k (pickM (encM k) p) = k) := Lib.hid (enc_full k q p (by omega) (by omega) HPN.out (fun r r' hr hr' e => by rw [hp] at e; exact hereL_inj (by omega) (by omega) e))
        have HPP := Lib.hid hp
        have HRR : Hid (k ≤ (hereL has q).length) := Lib.hid (by rw [← hRR]; exact hkR)
        have T1 := Lib.hid hTT
        have I1 := Lib.hid hII
        have hsm := HSM.out rfl HRR.out
        have hN21 : 1 ≤ N2 := by rw [← HN2.out]; exact Nat.mul_pos hk1 hk1
        clear fT fI hR hO hl hp hRR hTT hII hpl hzz hz HT HLI H
        go_wp2_with fail
        refine (HR.out _).mono ?_
        rintro e w2 ⟨g2, c2, rfl, hS, hl2, hc2, hb2⟩
        have B2 := Lib.hid (HB0.out.trans (hb2.mono HB0.out.size))
        have T2 := Lib.hid (T1.out.keep (hb2.block gT hglT))
        have I2 := Lib.hid (I1.out.keep (hb2.block gI hglI))
        have hglT := Nat.lt_of_lt_of_le hglT hb2.size
        have hglI := Nat.lt_of_lt_of_le hglI hb2.size
        have S2 := Lib.hid hS
        clear hS hb2 T1 I1 HB0 HR
        go_wp2_with fail
        refine (rPick_rows q k g2 0 N c2 gI 0 k cI k (encM k) (fun r => (p r : Int)) p (by omega) hkm hk1 hk2 HN.out hc2 hk1 hk2 (Nat.le_refl _) (fun j hj => ⟨rfl, HPN.out j hj⟩) (fun h0 => absurd h0 (Nat.lt_irrefl _)) _ S2.out hl2 I2.out hglI).mono ?_
        rintro e w3 ⟨hP, hb3⟩
        rw [HN2.out] at hP
        rcases hP with ⟨_, g3, c3, rfl, hH⟩ | ⟨h0, _⟩
        case inr => exact absurd h0 (Nat.lt_irrefl _)
        obtain ⟨b3, o3, e3, hl3, hr3⟩ := hH.cells hN21
        injection e3 with e3
        injection e3 with e4 e5 _
        subst e4; subst e5
        have B3 := Lib.hid (B2.out.trans (hb3.mono B2.out.size))
        have T3 := Lib.hid (T2.out.keep (hb3.block gT hglT))
        have hglT := Nat.lt_of_lt_of_le hglT hb3.size
        have P3 : Hid (Src g3 0 (pickM (encM k) p) k k w3) := Lib.hid hr3
        clear hH hr3 hb3 T2 I2 S2 B2
        go_wp2_with (refine wpList_store_whole rfl 62 _ _ rfl w3.heap.size [.int .i64 k, .int .i64 k, .slice (some ⟨g3, 0, none⟩) N2 c3] zeroRow 62 rfl rfl (heap_alloc_new _ _) rfl (by kernel_rfl) (lent_ones _ _ _ _ _) ?_; intro w4 h4 k4 s4; have hs4 := after_box k4.out; have P4 := Lib.hid (P3.out.keep (hs4.block g3 hl3)); have T4 := Lib.hid (T3.out.keep (hs4.block gT hglT)); have hl4 := Nat.lt_of_lt_of_le hl3 hs4.size; have hgl4 := Nat.lt_of_lt_of_le hglT hs4.size; have B4 := Lib.hid (B3.out.trans (hs4.mono B3.out.size)); obtain ⟨c0, c1, c2⟩ := heap_cell0 h4.out; clear B3 P3 T3 hs4; go_frame)
        clear h4 k4 s4
        refine (rInvert_sq k g3 0 N2 c3 _ HN2.out hk1 hk2 _ P4.out hl4).mono ?_
        rintro e w5 ⟨hV, hb5⟩
        rcases hV with ⟨_, g5, rfl, hT5⟩ | ⟨h0, _⟩
        case inr => exact absurd HK.out h0
        have B5 := Lib.hid (B4.out.trans (hb5.mono B4.out.size))
        have T5 := Lib.hid (T4.out.keep (hb5.block gT hgl4))
        have hgl5 := Nat.lt_of_lt_of_le hgl4 hb5.size
        have V5 := Lib.hid hT5
        clear hT5 hb5 T4 P4 B4 c0 c1 c2
        go_wp2_with (refine wpList_store_whole rfl 62 _ _ rfl w5.heap.size [.int .i64 k, .int .i64 k, .slice (some ⟨g5, 0, none⟩) N2 N2] zeroRow 62 rfl rfl (heap_alloc_new _ _) rfl (by kernel_rfl) (mv_ones _ _ _ _) ?_; intro w6 h6 k6 s6; have hs6 := after_box k6.out; have V6 := Lib.hid ((BoxT.of h6.out k6.out V5.out).1); have T6 := Lib.hid (T5.out.keep (hs6.block gT hgl5)); have hgl6 := Nat.lt_of_lt_of_le hgl5 hs6.size; have B6 := Lib.hid (B5.out.trans (hs6.mono B5.out.size)); obtain ⟨c0, c1, c2⟩ := heap_cell0 V6.out.box; clear B5 V5 T5 hs6; go_frame)
        clear h6 k6 s6
        refine (rApply_good k k g5 0 N2 N2 gT 0 cT s (invM k (pickM (encM k) p)) (fun r => dat (p r)) hk1 hk2 hk1 hk2 HN2.out hsm HPS.out _ V6.out.tab.src V6.out.tab.lt T6.out hgl6).mono ?_
        rintro e w7 ⟨g7, c7, rfl, hT7, hb7⟩
        have B7 := Lib.hid (B6.out.trans (hb7.mono B6.out.size))
        rw [show (fun i => txt (mm k (invM k (pickM (encM k) p)) (fun j => strAt (dat (p j))) i) s) = solT k s p (fun r => dat (p r)) from funext fun i => (solT_eq k s p (fun r => dat (p r)) i).symm] at hT7
        have T7 := Lib.hid hT7
        clear hT7 hb7 B6 V6 T6 c0 c1 c2
        go_wp2_with fail
        refine (apply8_any k m q s g7 c7 (solT k s p fun r => dat (p r)) hk1 HSUM.out hkm hsm (fun j _ => solT_size _ _ _ _ _) 0 _ T7.out.t T7.out.lt).mono ?_
        rintro e w8 ⟨g8, c8, rfl, hT8, hb8⟩
        have B8 := Lib.hid (B7.out.trans (hb8.mono B7.out.size))
        have T8 := Lib.hid hT8
        clear hT8 hb8
        go_wp2_with fail
        go_ret2
        refine ⟨.inr (.inr ⟨rfl, HRR.out, g8, c8, rfl, ?_⟩), B8.out⟩
        have e8 := T8.out
        rw [HPP.out] at e8
        exact e8
end Go.Proofs.YteanbflbclmeeaaGreat

/- Erasure: both sides of Restore, Join, Check; the walk of ErasureRestores. -/
namespace Go.Proofs.YteanbflbclmeeaaGreat
open Go.RowKit

/-- Both sides of Restore. -/
structure Res2 (k m L : Int) (n : Nat) (has : Nat → Bool) (dat : Nat → ByteArray) (code N : Nat) (F : Nat → ByteArray) : Prop where
  le : N ≤ 255
  p : ∀ a0 cap w, PX a0 n has dat w → Calls Tryz.prog 6 #[.int .i64 k, .int .i64 m, .int .i64 L, .slice a0 n cap] w fun e w' => ∃ a c E, e = .returned (.tuple #[.slice a N c, E]) ∧ TX a N F w' ∧ ErrE code E w' ∧ Below w.heap.size w w'
  q : ∀ a0 cap w, PX a0 n has dat w → Calls Tryz.prog 7 #[.int .i64 k, .int .i64 m, .int .i64 L, .slice a0 n cap] w fun e w' => ∃ a c, e = .returned (.tuple #[.slice a N c, .int .i64 code]) ∧ TX a N F w' ∧ Below w.heap.size w w'
theorem tx_none (F : Nat → ByteArray) (w : World) : TX none 0 F w := fun h => by omega
theorem res_sides (k m L : Int) (n : Nat) (has : Nat → Bool) (dat : Nat → ByteArray) (hk : k ≤ 9223372036854775807) (hL : L ≤ 9223372036854775807) (hn : n ≤ 1000) (hd : ∀ j, j < n → (dat j).size ≤ 500) : ∃ code N F, Res2 k m L n has dat code N F := by
  by_cases h : mayE k m L = true
  case neg =>
    have h : mayE k m L = false := by simpa using h
    refine ⟨1, 0, fun _ => .empty, ⟨by omega, fun a0 cap w _ => ?_, fun a0 cap w _ => ?_⟩⟩
    · refine (Restore_bad k m L a0 n cap hk h w).mono ?_
      rintro e w' ⟨g, rfl, hF, hb⟩
      exact ⟨none, 0, _, rfl, tx_none _ _, .inr ⟨by omega, g, rfl, hF⟩, hb⟩
    · refine (r8Restore_bad k m L a0 n cap h w).mono ?_
      rintro e w' ⟨rfl, rfl⟩
      exact ⟨none, 0, rfl, tx_none _ _, Below.refl _ _⟩
  obtain ⟨kn, mn, Ln, rfl, rfl, rfl, h1, h2⟩ := mayE_nat h
  by_cases hnk : n = kn + mn
  case neg =>
    refine ⟨19, 0, fun _ => .empty, ⟨by omega, fun a0 cap w hP => ?_, fun a0 cap w _ => ?_⟩⟩
    · refine (Restore_len kn mn Ln n cap a0 has dat h1 h2 hn hnk w hP).mono ?_
      rintro e w' ⟨g, rfl, hF, hb⟩
      exact ⟨none, 0, _, rfl, tx_none _ _, .inr ⟨by omega, g, rfl, hF⟩, hb⟩
    · refine (r8Restore_len kn mn Ln n cap a0 h1 h2 hL hnk w).mono ?_
      rintro e w' ⟨rfl, rfl⟩
      exact ⟨none, 0, rfl, tx_none _ _, Below.refl _ _⟩
  obtain ⟨s, hs⟩ : ∃ s, szN kn Ln = s := ⟨_, rfl⟩
  by_cases hb : ∃ j, j < n ∧ has j = true ∧ (dat j).size ≠ s
  · obtain ⟨j, hj, hj2⟩ := hb
    obtain ⟨q, hq, hq2, hq3⟩ := first_of (p := fun j => has j = true ∧ (dat j).size ≠ s) j hj2
    refine ⟨19, 0, fun _ => .empty, ⟨by omega, fun a0 cap w hP => ?_, fun a0 cap w hP => ?_⟩⟩
    · refine (Restore_size kn mn n s Ln cap a0 has dat h1 hnk.symm (by omega) hL hs ⟨j, hj, hj2⟩ w hP).mono ?_
      rintro e w' ⟨g, rfl, hF, hb⟩
      exact ⟨none, 0, _, rfl, tx_none _ _, .inr ⟨by omega, g, rfl, hF⟩, hb⟩
    · refine (r8Restore_any kn mn n s Ln cap q a0 has dat h1 hnk.symm (by omega) hL hs (fun e => by omega) (by omega) (fun i hi hh => Classical.byContradiction fun hne => hq3 i hi ⟨hh, hne⟩) (fun _ => hq2) w hP).mono ?_
      rintro e w' ⟨hO, hb⟩
      rcases hO with ⟨_, rfl⟩ | ⟨h0, _⟩ | ⟨h0, _⟩
      · exact ⟨none, 0, rfl, tx_none _ _, hb⟩
      · omega
      · omega
  have hsz : ∀ j, j < n → has j = true → (dat j).size = s := fun j hj hh => Classical.byContradiction fun hne => hb ⟨j, hj, hh, hne⟩
  obtain ⟨R, hR⟩ : ∃ R, (hereL has n).length = R := ⟨_, rfl⟩
  have hsm : kn ≤ R → s ≤ 500 := fun hkR => by
    have hr := hereL_at (has := has) (n := n) (r := 0) (by omega)
    rw [← hsz _ hr.1 hr.2]
    exact hd _ hr.1
  by_cases hkR : kn ≤ R
  · obtain ⟨p, hp⟩ : ∃ p : Nat → Nat, p = fun r => (hereL has n).getD r 0 := ⟨_, rfl⟩
    have hF : allT kn s (solT kn s p fun r => dat (p r)) = shT kn s fun i => strAt (solT kn s p (fun r => dat (p r)) i) := funext fun i => allT_sh (fun j _ => solT_size _ _ _ _ _) i
    refine ⟨0, n, allT kn s (solT kn s p fun r => dat (p r)), ⟨by omega, fun a0 cap w hP => ?_, fun a0 cap w hP => ?_⟩⟩
    · refine (Restore_ok kn mn n s Ln cap R a0 has dat p h1 hnk.symm (by omega) hL hs (by have := hsm hkR; omega) hR hkR hp hsz w hP).mono ?_
      rintro e w' ⟨g, c, rfl, _, hC, hb⟩
      exact ⟨_, c, _, rfl, fun _ => ⟨g, 0, rfl, hC.lt, hC.t⟩, .inl ⟨rfl, rfl⟩, hb⟩
    · refine (r8Restore_any kn mn n s Ln cap n a0 has dat h1 hnk.symm (by omega) hL hs (fun _ _ => by have := hsm hkR; omega) (Nat.le_refl _) (fun i hi hh => hsz i hi hh) (fun h0 => absurd h0 (Nat.lt_irrefl _)) w hP).mono ?_
      rintro e w' ⟨hO, hb⟩
      rcases hO with ⟨h0, _⟩ | ⟨_, h0, _⟩ | ⟨_, _, g, c, rfl, hC⟩
      · omega
      · omega
      · refine ⟨_, c, rfl, fun _ => ⟨g, 0, rfl, hC.lt, ?_⟩, hb⟩
        rw [hF, hp]
        exact hC.t
  · refine ⟨17, 0, fun _ => .empty, ⟨by omega, fun a0 cap w hP => ?_, fun a0 cap w hP => ?_⟩⟩
    · refine (Restore_few kn mn n s Ln cap R a0 has dat h1 hnk.symm (by omega) hL hs hR (by omega) hsz w hP).mono ?_
      rintro e w' ⟨g, _, rfl, hF, hb⟩
      exact ⟨none, 0, _, rfl, tx_none _ _, .inr ⟨by omega, g, rfl, hF⟩, hb⟩
    · refine (r8Restore_any kn mn n s Ln cap n a0 has dat h1 hnk.symm (by omega) hL hs (fun _ h0 => by omega) (Nat.le_refl _) (fun i hi hh => hsz i hi hh) (fun h0 => absurd h0 (Nat.lt_irrefl _)) w hP).mono ?_
      rintro e w' ⟨hO, hb⟩
      rcases hO with ⟨h0, _⟩ | ⟨_, h0, rfl⟩ | ⟨_, h0, _⟩
      · omega
      · exact ⟨none, 0, rfl, tx_none _ _, hb⟩
      · omega
/-- Both sides of Join. -/
structure Join2 (k L : Int) (n : Nat) (dat : Nat → ByteArray) (code : Nat) (t : ByteArray) : Prop where
  p : ∀ a0 cap w, n ≤ cap → TX a0 n dat w → Calls Tryz.prog 10 #[.int .i64 k, .int .i64 L, .slice a0 n cap] w fun e w' => ∃ E, e = .returned (.tuple #[.string t, E]) ∧ ErrE code E w' ∧ Below w.heap.size w w'
  q : ∀ a0 cap w, TX a0 n dat w → Calls Tryz.prog 11 #[.int .i64 k, .int .i64 L, .slice a0 n cap] w fun e w' => e = .returned (.tuple #[.string t, .int .i64 code]) ∧ w = w'
theorem join_sides (k L : Int) (n : Nat) (dat : Nat → ByteArray) (hk : k ≤ 9223372036854775807) (hL : L ≤ 9223372036854775807) (hd : ∀ j, j < n → (dat j).size ≤ 500) : ∃ code t, Join2 k L n dat code t := by
  by_cases h : mayE k 0 L = true
  case neg =>
    have h : mayE k 0 L = false := by simpa using h
    refine ⟨1, ⟨#[]⟩, ⟨fun a0 cap w _ _ => ?_, fun a0 cap w _ => ?_⟩⟩
    · refine (Join_bad k L a0 n cap hk h w).mono ?_
      rintro e w' ⟨g, rfl, hF, hb⟩
      exact ⟨_, rfl, .inr ⟨by omega, g, rfl, hF⟩, hb⟩
    · exact r8Join_bad k L a0 n cap h w
  obtain ⟨kn, mn, Ln, rfl, hm0, rfl, h1, h2⟩ := mayE_nat h
  have hk2 : kn ≤ 255 := by omega
  by_cases hnk : n < kn
  · refine ⟨19, ⟨#[]⟩, ⟨fun a0 cap w _ _ => ?_, fun a0 cap w _ => ?_⟩⟩
    · refine (Join_len kn n Ln cap a0 h1 hk2 hnk w).mono ?_
      rintro e w' ⟨g, rfl, hF, hb⟩
      exact ⟨_, rfl, .inr ⟨by omega, g, rfl, hF⟩, hb⟩
    · exact r8Join_len kn n Ln cap a0 h1 hk2 hL hnk w
  obtain ⟨s, hs⟩ : ∃ s, szN kn Ln = s := ⟨_, rfl⟩
  by_cases hb : ∃ j, j < kn ∧ (dat j).size ≠ s
  · obtain ⟨j, hj, hj2⟩ := hb
    obtain ⟨q, hq, hq2, hq3⟩ := first_of (p := fun j => (dat j).size ≠ s) j hj2
    have hqf : ∀ i, i < q → (dat i).size = s := fun i hi => Classical.byContradiction fun hne => hq3 i hi hne
    refine ⟨19, ⟨#[]⟩, ⟨fun a0 cap w hc hT => ?_, fun a0 cap w hT => ?_⟩⟩
    · obtain ⟨b, o, rfl, hl, ht⟩ := hT (by omega)
      refine (Join_size kn n s Ln b o cap dat h1 hk2 (by omega) hc hs hL ⟨j, hj, hj2⟩ w ht hl).mono ?_
      rintro e w' ⟨g, rfl, hF, hb⟩
      exact ⟨_, rfl, .inr ⟨by omega, g, rfl, hF⟩, hb⟩
    · obtain ⟨b, o, rfl, hl, ht⟩ := hT (by omega)
      refine (r8Join_loop kn n s Ln b o cap q dat h1 hk2 (by omega) hs hL (fun h0 => by rw [← hqf 0 h0]; exact hd 0 (by omega)) (by omega) hqf (fun _ => hq2) w ht hl).mono ?_
      rintro e w' ⟨hO, hw⟩
      rcases hO with ⟨_, rfl⟩ | ⟨h0, _⟩
      · exact ⟨rfl, hw⟩
      · omega
  have hsz : ∀ j, j < kn → (dat j).size = s := fun j hj => Classical.byContradiction fun hne => hb ⟨j, hj, hne⟩
  have hsm : s ≤ 500 := by rw [← hsz 0 (by omega)]; exact hd 0 (by omega)
  have hL2 : (Ln : Int) ≤ 140737488355328 := by
    have h3 := szN_ge h1 Ln
    rw [hs] at h3
    have h4 : kn * s ≤ 255 * 500 := Nat.mul_le_mul hk2 hsm
    omega
  refine ⟨0, (catT dat kn).extract 0 Ln, ⟨fun a0 cap w hc hT => ?_, fun a0 cap w hT => ?_⟩⟩
  · obtain ⟨b, o, rfl, hl, ht⟩ := hT (by omega)
    refine (Join_ok kn n s Ln b o cap dat h1 hk2 (by omega) hc hs hL2 (by omega) hsz w ht hl).mono ?_
    rintro e w' ⟨rfl, hb⟩
    exact ⟨_, rfl, .inl ⟨rfl, rfl⟩, hb⟩
  · obtain ⟨b, o, rfl, hl, ht⟩ := hT (by omega)
    refine (r8Join_loop kn n s Ln b o cap kn dat h1 hk2 (by omega) hs hL (fun _ => hsm) (Nat.le_refl _) hsz (fun h0 => absurd h0 (Nat.lt_irrefl _)) w ht hl).mono ?_
    rintro e w' ⟨hO, hw⟩
    rcases hO with ⟨h0, _⟩ | ⟨_, rfl⟩
    · omega
    · exact ⟨rfl, hw⟩
/-- Both sides of Check. -/
structure Chk2 (k m : Int) (n : Nat) (dat : Nat → ByteArray) (code : Nat) (r : Bool) : Prop where
  p : ∀ a0 cap w, n ≤ cap → TX a0 n dat w → Calls Tryz.prog 12 #[.int .i64 k, .int .i64 m, .slice a0 n cap] w fun e w' => ∃ E, e = .returned (.tuple #[.bool r, E]) ∧ ErrE code E w' ∧ Below w.heap.size w w'
  q : ∀ a0 cap w, n ≤ cap → TX a0 n dat w → Calls Tryz.prog 13 #[.int .i64 k, .int .i64 m, .slice a0 n cap] w fun e w' => e = .returned (.tuple #[.bool r, .int .i64 code]) ∧ Below w.heap.size w w'
theorem chk_sides (k m : Int) (n : Nat) (dat : Nat → ByteArray) (hk : k ≤ 9223372036854775807) (hd : ∀ j, j < n → (dat j).size ≤ 500) : ∃ code r, Chk2 k m n dat code r := by
  by_cases h : mayE k m 0 = true
  case neg =>
    have h : mayE k m 0 = false := by simpa using h
    refine ⟨1, false, ⟨fun a0 cap w _ _ => ?_, fun a0 cap w _ _ => ?_⟩⟩
    · refine (Check_bad k m a0 n cap hk h w).mono ?_
      rintro e w' ⟨g, rfl, hF, hb⟩
      exact ⟨_, rfl, .inr ⟨by omega, g, rfl, hF⟩, hb⟩
    · refine (r8Check_bad k m a0 n cap h w).mono ?_
      rintro e w' ⟨rfl, rfl⟩
      exact ⟨rfl, Below.refl _ _⟩
  obtain ⟨kn, mn, Ln, rfl, rfl, hm0, h1, h2⟩ := mayE_nat h
  by_cases hnk : n = kn + mn
  case neg =>
    refine ⟨19, false, ⟨fun a0 cap w _ _ => ?_, fun a0 cap w _ _ => ?_⟩⟩
    · refine (Check_len kn mn n cap a0 h1 h2 hnk w).mono ?_
      rintro e w' ⟨g, rfl, hF, hb⟩
      exact ⟨_, rfl, .inr ⟨by omega, g, rfl, hF⟩, hb⟩
    · refine (r8Check_len kn mn n cap a0 h1 h2 hnk w).mono ?_
      rintro e w' ⟨rfl, rfl⟩
      exact ⟨rfl, Below.refl _ _⟩
  by_cases hb : ∃ j, j < n ∧ (dat j).size ≠ (dat 0).size
  · obtain ⟨j, hj, hj2⟩ := hb
    obtain ⟨q, hq, hq2, hq3⟩ := first_of (p := fun j => (dat j).size ≠ (dat 0).size) j hj2
    refine ⟨19, false, ⟨fun a0 cap w hc hT => ?_, fun a0 cap w hc hT => ?_⟩⟩
    · obtain ⟨b, o, rfl, hl, ht⟩ := hT (by omega)
      refine (Check_size kn mn n b o cap dat h1 hnk.symm (by omega) ⟨j, hj, hj2⟩ w ht hl).mono ?_
      rintro e w' ⟨g, rfl, hF, hb⟩
      exact ⟨_, rfl, .inr ⟨by omega, g, rfl, hF⟩, hb⟩
    · obtain ⟨b, o, rfl, hl, ht⟩ := hT (by omega)
      exact r8Check_size kn mn n b o cap q dat h1 hnk.symm (by omega) (by omega) (fun i hi => Classical.byContradiction fun hne => hq3 i hi hne) hq2 w ht hl
  obtain ⟨s, hs⟩ : ∃ s, s = (dat 0).size := ⟨_, rfl⟩
  have hsz : ∀ j, j < n → (dat j).size = s := fun j hj => Classical.byContradiction fun hne => hb ⟨j, hj, by rw [← hs]; exact hne⟩
  have hsm : s ≤ 500 := by rw [hs]; exact hd 0 (by omega)
  have hc1 : chkB kn mn s dat = true ↔ ∀ i, i < kn + mn → shT kn s (fun j => strAt (dat j)) i = dat i := chk_all fun j hj => hsz j (by omega)
  have hp : ∀ a0 cap w, n ≤ cap → TX a0 n dat w → Calls Tryz.prog 12 #[.int .i64 kn, .int .i64 mn, .slice a0 n cap] w fun e w' => ∃ E, e = .returned (.tuple #[.bool (chkB kn mn s dat), E]) ∧ ErrE 0 E w' ∧ Below w.heap.size w w' := fun a0 cap w hc hT => by
    obtain ⟨b, o, rfl, hl, ht⟩ := hT (by omega)
    refine (Check_ok kn mn n s b o cap dat h1 hnk.symm (by omega) hc (by omega) hsz w ht hl).mono ?_
    rintro e w' ⟨rfl, hb⟩
    exact ⟨_, rfl, .inl ⟨rfl, rfl⟩, hb⟩
  by_cases hd2 : ∃ j, j < n ∧ shT kn s (fun j => strAt (dat j)) j ≠ dat j
  · obtain ⟨j, hj, hj2⟩ := hd2
    obtain ⟨q, hq, hq2, hq3⟩ := first_of (p := fun j => shT kn s (fun j => strAt (dat j)) j ≠ dat j) j hj2
    have hf : chkB kn mn s dat = false := by
      cases hcb : chkB kn mn s dat with
      | false => rfl
      | true => exact absurd (hc1.1 hcb j (by omega)) hj2
    rw [hf] at hp
    refine ⟨0, false, ⟨hp, fun a0 cap w hc hT => ?_⟩⟩
    obtain ⟨b, o, rfl, hl, ht⟩ := hT (by omega)
    refine (r8Check_ok kn mn n s b o cap q dat h1 hnk.symm (by omega) hc (by omega) hsz (by omega) (fun i hi => Classical.byContradiction fun hne => hq3 i hi hne) (fun _ => hq2) w ht hl).mono ?_
    rintro e w' ⟨hO, hb⟩
    rcases hO with ⟨_, rfl⟩ | ⟨h0, _⟩
    · exact ⟨rfl, hb⟩
    · omega
  · have hall : ∀ j, j < n → shT kn s (fun j => strAt (dat j)) j = dat j := fun j hj => Classical.byContradiction fun hne => hd2 ⟨j, hj, hne⟩
    have hf : chkB kn mn s dat = true := hc1.2 fun i hi => hall i (by omega)
    rw [hf] at hp
    refine ⟨0, true, ⟨hp, fun a0 cap w hc hT => ?_⟩⟩
    obtain ⟨b, o, rfl, hl, ht⟩ := hT (by omega)
    refine (r8Check_ok kn mn n s b o cap n dat h1 hnk.symm (by omega) hc (by omega) hsz (Nat.le_refl _) hall (fun h0 => absurd h0 (Nat.lt_irrefl _)) w ht hl).mono ?_
    rintro e w' ⟨hO, hb⟩
    rcases hO with ⟨h0, _⟩ | ⟨_, rfl⟩
    · omega
    · exact ⟨rfl, hb⟩
end Go.Proofs.YteanbflbclmeeaaGreat

/- Erasure: the walk of ErasureRestores. -/
namespace Go.Proofs.YteanbflbclmeeaaGreat
open Go.RowKit

/-- The cells of n pieces. -/
@[irreducible] def pcL (has : Nat → Bool) (dat : Nat → ByteArray) (n : Nat) : List Value := (List.range (n * 2)).map fun i => if i % 2 = 0 then Value.bool (has (i / 2)) else .string (dat (i / 2))
theorem length_pcL (has : Nat → Bool) (dat : Nat → ByteArray) (n : Nat) : (pcL has dat n).length = n * 2 := by unfold pcL; simp
theorem pcL_get {has : Nat → Bool} {dat : Nat → ByteArray} {n i : Nat} (h : i < n * 2) : (pcL has dat n)[i]? = some (if i % 2 = 0 then Value.bool (has (i / 2)) else .string (dat (i / 2))) := by unfold pcL; rw [List.getElem?_map, List.getElem?_range h]; rfl
theorem pcL_has {has : Nat → Bool} {dat : Nat → ByteArray} {n j : Nat} (h : j < n) : (pcL has dat n)[j * 2]? = some (.bool (has j)) := by rw [pcL_get (by omega), if_pos (by omega), show j * 2 / 2 = j by omega]
theorem pcL_dat {has : Nat → Bool} {dat : Nat → ByteArray} {n j : Nat} (h : j < n) : (pcL has dat n)[j * 2 + 1]? = some (.string (dat j)) := by rw [pcL_get (by omega), if_neg (by omega), show (j * 2 + 1) / 2 = j by omega]
theorem infoPiece : (Tryz.prog.info? 27).map (fun i => (i.zero, i.size, i.bytes)) = some (some (.agg #[.bool false, .string .empty]), 2, 24) := by kernel_rfl
theorem wpList_nil_appendP {w : World} {ops : Array Oper} {rest : List Oper} {o : Oper} {a : Act} {Q : Exit → Act → World → Prop} (hgd : o.guard = none) (s x : Operand) (ho : o.op = .call { callee := .builtin .append, args := #[s, x], argTypes := #[22, 22] })
    (hs : a.eval s = .slice none 0 0) (ao : Option Addr) (cx : Nat) (hx : a.eval x = .slice ao 0 cx) (hz : ao = none → cx = 0)
    (h : wpList Tryz.prog ops Q rest (a.put o.dst (.slice none 0 0)) w) : wpList Tryz.prog ops Q (o :: rest) a w := by
  refine wpList_plain hgd fun K hK' => ?_
  have hr : (Builtin.append_ #[22, 22] o.type #[.slice none 0 0, .slice ao 0 cx]).run Tryz.prog w = .ok (.slice none 0 0) w := by
    obtain ⟨i0, hi, _, _, _⟩ := ginfo_parts infoPiece
    cases ao with
    | none =>
      obtain rfl := hz rfl
      exact run_append_owned_none (P := Tryz.prog) w w.heap.size 22 o.type 27 i0 2 Tryz.underlying22 hi (.slice none 0 0) 0 [] (World.ownsRow_nil w _ _ _)
    | some ad =>
      have hl := run_loadCells_list (P := Tryz.prog) w ad [] (fun j u hu => by simp at hu)
      simp only [List.length_nil] at hl
      simp [Builtin.append_, run_underlying Tryz.underlying22, sizeOf, typeInfo, hi, Builtin.lenOf, Builtin.firstCells, hl, Result.andThen]
  unfold Oper.wp
  simp [execOp, ho, resolve, invoke, builtin, hs, hx, hr, Result.andThen]
  exact hK' _ _ h
/-- append of any pieces to nothing. -/
theorem wpList_clone_pieces {w : World} {ops : Array Oper} {rest : List Oper} {o : Oper} {a : Act} {Q : Exit → Act → World → Prop} (hgd : o.guard = none) (s x : Operand) (ho : o.op = .call { callee := .builtin .append, args := #[s, x], argTypes := #[22, 22] })
    (hs : a.eval s = .slice none 0 0) (s0 : Option Addr) (n capn : Nat) (has : Nat → Bool) (dat : Nat → ByteArray) (hx : a.eval x = .slice s0 n capn) (hz : s0 = none → capn = 0) (hn : n ≤ 1000) (hT : PX s0 n has dat w)
    (h : ∀ a1 cap1 w', Hid (PX a1 n has dat w') → Hid (Below w.heap.size w w') → wpList Tryz.prog ops Q rest (a.put o.dst (.slice a1 n cap1)) w') : wpList Tryz.prog ops Q (o :: rest) a w := by
  by_cases h0 : 0 < n
  · obtain ⟨b, of, rfl, hl, ht⟩ := hT h0
    refine wpList_plain hgd fun _ hK => ?_
    obtain ⟨i0, hi, hz0, hz1, hz2⟩ := ginfo_parts infoPiece
    refine wp_append_own w s x 22 ho w.heap.size 27 i0 (.agg #[.bool false, .string .empty]) 2 24 Tryz.underlying22 hi hz0 hz1 hz2 rfl (by decide) (.slice none 0 0) 0 [] hs (World.ownsRow_nil _ _ _ _) ⟨b, of, none⟩ n capn (pcL has dat n) hx (length_pcL _ _ _) ?_ ?_ (by unfold maxLen; omega) (by omega) (Nat.le_refl _) fun v' w' h2 h3 _ => hK _ _ ?_
    · intro j u hu
      have hj : j < n * 2 := by have := (List.getElem?_eq_some_iff.1 hu).1; rwa [length_pcL] at this
      rw [pcL_get hj] at hu
      rw [Addr.add_mid]
      have hq := ht (j / 2) (by omega)
      by_cases hm : j % 2 = 0
      · rw [if_pos hm] at hu
        rw [show of + j = of + j / 2 * 2 by omega]
        exact hq.1.trans hu
      · rw [if_neg hm] at hu
        rw [show of + j = of + j / 2 * 2 + 1 by omega]
        exact hq.2.trans hu
    · intro u hu
      obtain ⟨j, hj⟩ := List.mem_iff_getElem?.1 hu
      have hj2 : j < n * 2 := by have := (List.getElem?_eq_some_iff.1 hj).1; rwa [length_pcL] at this
      rw [pcL_get hj2] at hj
      by_cases hm : j % 2 = 0
      · rw [if_pos hm] at hj; rw [← Option.some.inj hj]; rfl
      · rw [if_neg hm] at hj; rw [← Option.some.inj hj]; rfl
    · have hl2 := World.ownsRow.lt h2
      rcases h2.2 with ⟨_, h0'⟩ | ⟨g, cap, cur, hv, _, _, hn', _, _, _⟩
      · omega
      · subst hv
        rw [Nat.zero_add] at h2 ⊢
        have hg := hl2 g rfl
        refine h _ _ w' (Lib.hid fun _ => ⟨g, 0, rfl, hg.2, fun j hj => ?_⟩) (Lib.hid ⟨h3.os, h3.tape, h3.output, h3.size, fun k hk => h3.block k hk (fun e => by cases e)⟩)
        have e1 := World.ownsRow.cells h2 (g := g) rfl (j * 2) (.bool (has j)) (by rw [List.nil_append]; exact pcL_has hj)
        have e2 := World.ownsRow.cells h2 (g := g) rfl (j * 2 + 1) (.string (dat j)) (by rw [List.nil_append]; exact pcL_dat hj)
        rw [Addr.add_mid] at e1 e2
        exact ⟨e1, by rw [Nat.add_assoc]; exact e2⟩
  · obtain rfl : n = 0 := by omega
    exact wpList_nil_appendP hgd s x ho hs s0 capn hx hz (h none 0 w (Lib.hid fun h => by omega) (Lib.hid (Below.refl _ _)))
set_option maxRecDepth 20000 in
set_option maxHeartbeats 4000000 in
theorem Restores_walk (k m L : Int) (n cap : Nat) (a0 : Option Addr) (has : Nat → Bool) (dat : Nat → ByteArray) (hk : -9223372036854775808 ≤ k ∧ k ≤ 9223372036854775807) (hL : -9223372036854775808 ≤ L ∧ L ≤ 9223372036854775807) (hnn : n ≤ 140737488355328) (hz : a0 = none → cap = 0) (w : World) (h : PX a0 n has dat w) :
    Calls Tryz.prog 3 #[.int .i64 k, .int .i64 m, .int .i64 L, .slice a0 n cap] w fun e w' => e = .returned (.bool true) ∧ Below w.heap.size w w' := by
  have H := Lib.hid h
  have HZ := Lib.hid hz
  clear h hz
  go_enter Tryz.func3, Tryz.ntmps3
  go_wp2_with fail
  refine (eknown_any _).mono ?_
  rintro e w1 ⟨rfl, hb1⟩
  have B1 := Lib.hid hb1
  have P1 := Lib.hid (H.out.below hb1)
  clear hb1 H
  go_wp2_with fail
  refine (many_any k m _).mono ?_
  rintro e w' ⟨rfl, rfl⟩
  by_cases hm : manyB k m = true
  · rw [hm]
    go_wp2_with fail
    go_ret
    exact ⟨rfl, B1.out⟩
  have hm : manyB k m = false := by simpa using hm
  rw [hm]
  by_cases hn : 300 < n
  · have hgt : (300 : Int) < (n : Int) := by omega
    go_wp2_with fail
    go_ret
    exact ⟨rfl, B1.out⟩
  have hgt : ¬ (300 : Int) < (n : Int) := by omega
  have hn3 : n ≤ 300 := by omega
  go_wp2_with (refine wpList_clone_pieces rfl (.const (.slice none 0 0)) (.tmp 40) rfl rfl a0 n cap has dat rfl HZ.out (by omega) P1.out ?_; intro a1 cap1 w2 hP2 hb2; have P2 := Lib.hid hP2.out; have Q2 := Lib.hid (P1.out.below hb2.out); have B2 := Lib.hid (B1.out.trans (hb2.out.mono B1.out.size)); clear hP2 hb2 P1 B1; go_frame)
  go_loopw [11, 12] (fun v iv wr => ∃ i : Nat, i ≤ n ∧ iv = .int .i64 i ∧ OwnT w2.heap.size v (listT dat i) wr ∧ Below w2.heap.size w2 wr ∧ Hid (∀ j, j < i → (dat j).size ≤ 500)) (fun _ iv _ => n - (intOf iv).toNat)
  case atStart => exact ⟨0, by omega, rfl, OwnT.nil _ _, Below.refl _ _, Lib.hid fun j hj => by omega⟩
  case round =>
    obtain ⟨i, hi, rfl, hO, hB, H5⟩ := hrel
    have HO := Lib.hid hO
    have HB := Lib.hid hB
    have hsz := hB.size
    clear hO hB
    by_cases hlt : i < n
    · obtain ⟨b, o, rfl, hbl, hp⟩ := Q2.out (by omega)
      obtain ⟨d, hd⟩ : ∃ d, d = dat i := ⟨_, rfl⟩
      have cd : wr.cell? ⟨b, o + i * 2 + 1, none⟩ = some (.string d) := by rw [hd]; exact (HB.out.cell (p := ⟨b, o + i * 2 + 1, none⟩) hbl).trans (hp i hlt).2
      clear hp
      by_cases h5 : 500 < d.size
      · have hg5 : (500 : Int) < (d.size : Int) := by omega
        clear hd
        go_wp2_with fail
        go_ret
        exact ⟨rfl, B2.out.trans (HB.out.mono B2.out.size)⟩
      · have hg5 : ¬ (500 : Int) < (d.size : Int) := by omega
        have H6 : Hid (∀ j, j < i + 1 → (dat j).size ≤ 500) := Lib.hid fun j hj => by
          by_cases hji : j = i
          · rw [hji, ← hd]; omega
          · exact H5.out j (by omega)
        have HLS : Hid (listT dat (i + 1) = listT dat i ++ [d]) := Lib.hid (by rw [hd]; unfold listT; rw [List.range_succ, List.map_append]; rfl)
        clear hd H5
        go_wp2_with (refine wpList_append_strs rfl (.tmp 56) (.tmp 62) rfl w2.heap.size _ (listT dat i) rfl (HO.out.alloc _) ⟨wr.heap.size, 0, none⟩ 1 1 [d] rfl rfl (one_str wr d) (by rw [length_listT]; simp; omega) (by simp; omega) ?_; intro v' w3 ho hg; have HB1 := Lib.hid (grown_belowT (HB.out.alloc hsz _) (by simp; omega) (HO.out.alloc _) hg.out); have HO1 := Lib.hid ho.out; clear ho hg; go_frame)
        go_roundw
        case rel => exact ⟨i + 1, by omega, by go_num, by rw [HLS.out]; exact HO1.out, HB1.out, H6⟩
        case measure => simp [intOf]; omega
    · obtain rfl : i = n := by omega
      obtain ⟨aT, cT, rfl, fT⟩ := ownT_shape HO.out
      rw [length_listT] at fT ⊢
      have HTX : Hid (TX aT i dat wr) := Lib.hid fun h0 => by
        obtain ⟨g, rfl, _, hl, ht⟩ := fT h0
        refine ⟨g, 0, rfl, hl, fun j hj => ?_⟩
        rw [ht j hj]
        show some (Value.string ((listT dat i).getD j .empty)) = some (Value.string (dat j))
        rw [List.getD, listT_get _ _ _ hj]; rfl
      have hcT : Hid (i ≤ cT) := Lib.hid (by
        rcases Nat.eq_zero_or_pos i with h0 | h0
        · omega
        · obtain ⟨g, _, hc, _⟩ := fT h0
          exact hc)
      obtain ⟨c1, N, F, hR⟩ := res_sides k m L i has dat hk.2 hL.2 (by omega) H5.out
      obtain ⟨c2, t, hJ⟩ := join_sides k L i dat hk.2 hL.2 H5.out
      obtain ⟨c3, r, hC⟩ := chk_sides k m i dat hk.2 H5.out
      have HR := Lib.hid hR
      have HJ := Lib.hid hJ
      have HC := Lib.hid hC
      have B3 := Lib.hid (B2.out.trans (HB.out.mono B2.out.size))
      have P3 := Lib.hid (P2.out.below HB.out)
      have Q3 := Lib.hid (Q2.out.below HB.out)
      clear fT hR hJ hC HO HB hsz P2 Q2 B2 H5
      go_wp2_with fail
      refine (HR.out.p a1 cap1 _ P3.out).mono ?_
      rintro e w4 ⟨a4, d4, E4, rfl, hT4, hE4, hb4⟩
      have B4 := Lib.hid (B3.out.trans (hb4.mono B3.out.size))
      have P4 := Lib.hid (P3.out.below hb4)
      have Q4 := Lib.hid (Q3.out.below hb4)
      have X4 := Lib.hid (HTX.out.below hb4)
      have T4 := Lib.hid hT4
      have HE4 := Lib.hid hE4
      clear hT4 hE4 hb4 B3 P3 Q3 HTX
      go_wp2_with fail
      refine (HR.out.q a0 cap _ Q4.out).mono ?_
      rintro e w5 ⟨a5, d5, rfl, hT5, hb5⟩
      have B5 := Lib.hid (B4.out.trans (hb5.mono B4.out.size))
      have P5 := Lib.hid (P4.out.below hb5)
      have Q5 := Lib.hid (Q4.out.below hb5)
      have X5 := Lib.hid (X4.out.below hb5)
      have T45 := Lib.hid (T4.out.below hb5)
      have HE5 := Lib.hid (HE4.out.below hb5)
      have T5 := Lib.hid hT5
      clear hT5 hb5 B4 P4 Q4 X4 T4 HE4
      go_wp2_with fail
      refine (is_errE HE5.out).mono ?_
      rintro e w' ⟨rfl, rfl⟩
      go_wp2_with fail
      refine (eSame_yes N d4 d5 a4 a5 F F (by have := HR.out.le; omega) (fun _ _ => rfl) _ T45.out T5.out).mono ?_
      rintro e w6 ⟨rfl, hb6⟩
      have B6 := Lib.hid (B5.out.trans (hb6.mono B5.out.size))
      have P6 := Lib.hid (P5.out.below hb6)
      have Q6 := Lib.hid (Q5.out.below hb6)
      have X6 := Lib.hid (X5.out.below hb6)
      clear hb6 B5 P5 Q5 X5 T45 T5 HE5
      go_wp2_with fail
      go_loopw [19] (fun iv wr => ∃ j : Nat, j ≤ i ∧ iv = .int .i64 j ∧ Below w6.heap.size w6 wr) (fun iv _ => i - (intOf iv).toNat)
      case atStart => exact ⟨0, by omega, rfl, Below.refl _ _⟩
      case round =>
        obtain ⟨j, hj, rfl, hB⟩ := hrel
        have HB := Lib.hid hB
        clear hB
        by_cases hjn : j < i
        · obtain ⟨b1, o1, rfl, hl1, hp1⟩ := P6.out (by omega)
          obtain ⟨b2, o2, rfl, hl2, hp2⟩ := Q6.out (by omega)
          obtain ⟨x, hx⟩ : ∃ x, x = has j := ⟨_, rfl⟩
          obtain ⟨y, hy⟩ : ∃ y, y = dat j := ⟨_, rfl⟩
          have e1 := (HB.out.cell (p := ⟨b1, o1 + j * 2, none⟩) hl1).trans (hp1 j hjn).1
          have e2 := (HB.out.cell (p := ⟨b1, o1 + j * 2 + 1, none⟩) hl1).trans (hp1 j hjn).2
          have f1 := (HB.out.cell (p := ⟨b2, o2 + j * 2, none⟩) hl2).trans (hp2 j hjn).1
          have f2 := (HB.out.cell (p := ⟨b2, o2 + j * 2 + 1, none⟩) hl2).trans (hp2 j hjn).2
          rw [← hx] at e1 f1
          rw [← hy] at e2 f2
          clear hp1 hp2 hx hy
          go_wp2_with fail
          go_quiet (fail)
          go_wp2_with fail
          go_roundw
          case rel => exact ⟨j + 1, by omega, by go_num, by first | exact HB.out | exact below_drewN HB.out _⟩
          case measure => simp [intOf]; omega
        · have B7 := Lib.hid (B6.out.trans (HB.out.mono B6.out.size))
          have X7 := Lib.hid (X6.out.below HB.out)
          clear B6 X6 P6 Q6 HB
          go_wp2_with fail
          refine (HJ.out.p aT cT _ hcT.out X7.out).mono ?_
          rintro e w8 ⟨E8, rfl, hE8, hb8⟩
          have B8 := Lib.hid (B7.out.trans (hb8.mono B7.out.size))
          have X8 := Lib.hid (X7.out.below hb8)
          have HE8 := Lib.hid hE8
          clear hE8 hb8 B7 X7
          go_wp2_with fail
          refine (HJ.out.q aT cT _ X8.out).mono ?_
          rintro e w' ⟨rfl, rfl⟩
          go_wp2_with fail
          refine (is_errE HE8.out).mono ?_
          rintro e w' ⟨rfl, rfl⟩
          go_wp2_with fail
          refine (HC.out.p aT cT _ hcT.out X8.out).mono ?_
          rintro e w9 ⟨E9, rfl, hE9, hb9⟩
          have B9 := Lib.hid (B8.out.trans (hb9.mono B8.out.size))
          have X9 := Lib.hid (X8.out.below hb9)
          have HE9 := Lib.hid hE9
          clear hE9 hb9 B8 X8 HE8
          go_wp2_with fail
          refine (HC.out.q aT cT _ hcT.out X9.out).mono ?_
          rintro e w10 ⟨rfl, hb10⟩
          have B10 := Lib.hid (B9.out.trans (hb10.mono B9.out.size))
          have HE10 := Lib.hid (HE9.out.below hb10)
          clear hb10 B9 X9 HE9
          go_wp2_with fail
          refine (is_errE HE10.out).mono ?_
          rintro e w' ⟨rfl, rfl⟩
          have hte : (t.toList == t.toList) = true := beq_self_eq_true _
          have hrr : (r == r) = true := beq_self_eq_true _
          go_wp2_with fail
          go_ret
          exact ⟨rfl, B10.out⟩
end Go.Proofs.YteanbflbclmeeaaGreat

/- What is handed to a law of layer 7: bytes, numbers, texts, matrices. -/
namespace Go.Proofs.YteanbflbclmeeaaGreat
open Go.ChangeShapes Go.WideShapes Go.ChangeAt Go.RowKit Go.Deep

theorem mlaidOut : laidOutB Tryz.prog = true := by kernel_rfl
section
variable {H : Type} {enc : TypeId × Value → H} {W : World}
theorem wfb {n : Int} (h : (Lit.int .u8 n).wf = true) : ((UInt8.ofNat n.toNat).toNat : Int) = n := by
  have h2 : 0 ≤ n ∧ n ≤ 255 := by simpa [Lit.wf, IntKind.min, IntKind.max, IntKind.bits, IntKind.signed] using h
  rw [UInt8.toNat_ofNat']; omega
theorem wfi {n : Int} (h : (Lit.int .i64 n).wf = true) : -9223372036854775808 ≤ n ∧ n ≤ 9223372036854775807 := by
  simpa [Lit.wf, IntKind.min, IntKind.max, IntKind.bits, IntKind.signed] using h
/-- Bytes. -/
theorem open_hand {fuel : Nat} {cs : List Value} {x : DataW H × List MemPlace} (h : DataW.trod enc Tryz.prog W 0 (fun _ => true) true fuel 60 cs = some x) (hlt : ∀ y ∈ x.2, y.block < W.heap.size) :
    ∃ a0 len cap l, cs = [.slice a0 len cap] ∧ Hand a0 len cap l W ∧ (x.1 = .nil ∧ len = 0 ∨ ∃ e sp, x.1 = .slice e sp ∧ e.length = len) := by
  rcases open_ints Tryz.underlying60 Tryz.underlying5 (by kernel_rfl) h with ⟨hcs, hx⟩ | ⟨a, len, cap, zs, hcs, _, hl, hm, hz, hx, hc, hw⟩
  · exact ⟨none, 0, 0, [], hcs, ⟨rfl, Nat.le_refl _, fun h => by omega⟩, .inl ⟨by rw [hx], rfl⟩⟩
  · simp only [if_true] at hz
    refine ⟨some a, len, cap, (zs.take len).map fun z => UInt8.ofNat z.toNat, hcs, ⟨by simp; omega, hl, fun h0 => ?_⟩, .inr ⟨_, _, by rw [hx], by simp [lits]; omega⟩⟩
    obtain ⟨b, o, spot⟩ := a
    have hspot : spot = none := by simpa [Addr.add] using World.cell?_spot (hc 0 (by omega))
    subst hspot
    refine ⟨b, o, rfl, ?_, fun j v hv => ?_⟩
    · have := hlt (.cell b o) (by rw [hx]; exact MemPlace.mem_row.2 ⟨0, by omega, by simp⟩)
      exact this
    · have hj : j < len := by have := (List.getElem?_eq_some_iff.1 hv).1; simp at this; omega
      have hjz : j < zs.length := by omega
      rw [List.getElem?_map, List.getElem?_map, List.getElem?_take, if_pos hj, List.getElem?_eq_getElem hjz] at hv
      simp only [Option.map_some, Option.some.injEq] at hv
      rw [← hv]
      have h1 := hc j hjz
      rw [← add_plain]
      rw [h1, List.getD, List.getElem?_eq_getElem hjz]
      show some (Value.int .u8 zs[j]) = some (u8v _)
      unfold u8v
      rw [wfb (hw _ (List.getElem_mem hjz))]
/-- Numbers. -/
theorem open_intsH {fuel : Nat} {cs : List Value} {x : DataW H × List MemPlace} (h : DataW.trod enc Tryz.prog W 0 (fun _ => true) true fuel 51 cs = some x) (hlt : ∀ y ∈ x.2, y.block < W.heap.size) :
    ∃ (a0 : Option Addr) (len cap : Nat) (f : Nat → Int), cs = [.slice a0 len cap] ∧ len ≤ cap ∧ (0 < len → ∃ b o, a0 = some ⟨b, o, none⟩ ∧ b < W.heap.size ∧ Ints b o len f W) ∧ (∀ j, -9223372036854775808 ≤ f j ∧ f j ≤ 9223372036854775807) ∧ (x.1 = .nil ∧ len = 0 ∨ ∃ e sp, x.1 = .slice e sp ∧ e.length = len) := by
  rcases open_ints Tryz.underlying51 Tryz.underlying3 (by kernel_rfl) h with ⟨hcs, hx⟩ | ⟨a, len, cap, zs, hcs, _, hl, hm, hz, hx, hc, hw⟩
  · exact ⟨none, 0, 0, fun _ => 0, hcs, Nat.le_refl _, fun h => by omega, fun _ => (⟨by decide, by decide⟩ : (-9223372036854775808 : Int) ≤ 0 ∧ (0 : Int) ≤ 9223372036854775807), .inl ⟨by rw [hx], rfl⟩⟩
  · simp only [if_true] at hz
    refine ⟨some a, len, cap, fun j => zs.getD j 0, hcs, hl, fun h0 => ?_, fun j => ?_, .inr ⟨_, _, by rw [hx], by simp [lits]; omega⟩⟩
    · obtain ⟨b, o, spot⟩ := a
      have hspot : spot = none := by simpa [Addr.add] using World.cell?_spot (hc 0 (by omega))
      subst hspot
      refine ⟨b, o, rfl, ?_, fun j hj => ?_⟩
      · have := hlt (.cell b o) (by rw [hx]; exact MemPlace.mem_row.2 ⟨0, by omega, by simp⟩)
        exact this
      · rw [← add_plain]; exact hc j (by omega)
    · show -9223372036854775808 ≤ zs.getD j 0 ∧ zs.getD j 0 ≤ 9223372036854775807
      by_cases hj : j < zs.length
      · rw [List.getD, List.getElem?_eq_getElem hj]; exact wfi (hw _ (List.getElem_mem hj))
      · rw [List.getD, List.getElem?_eq_none (by omega)]; exact ⟨by decide, by decide⟩
/-- Texts. -/
theorem open_texts {fuel : Nat} {cs : List Value} {x : DataW H × List MemPlace} (h : DataW.trod enc Tryz.prog W 0 (fun _ => true) true fuel 25 cs = some x) (hlt : ∀ y ∈ x.2, y.block < W.heap.size) :
    ∃ (a0 : Option Addr) (len cap : Nat) (f : Nat → ByteArray), cs = [.slice a0 len cap] ∧ len ≤ cap ∧ (0 < len → ∃ b o, a0 = some ⟨b, o, none⟩ ∧ b < W.heap.size ∧ Texts b o len f W) ∧ (x.1 = .nil ∧ len = 0 ∨ ∃ ss sp, x.1 = .slice (strs ss) sp ∧ ss.length = len ∧ ∀ j, j < len → f j = ss.getD j ByteArray.empty) := by
  rcases open_strings Tryz.underlying25 Tryz.underlying9 (by kernel_rfl) h with ⟨hcs, hx⟩ | ⟨a, len, cap, ss, hcs, _, hl, hm, hz, hx, hc, hw⟩
  · exact ⟨none, 0, 0, fun _ => .empty, hcs, Nat.le_refl _, fun h => by omega, .inl ⟨by rw [hx], rfl⟩⟩
  · simp only [if_true] at hz
    refine ⟨some a, len, cap, fun j => ss.getD j ByteArray.empty, hcs, hl, fun h0 => ?_, .inr ⟨ss.take len, _, by rw [hx], by rw [List.length_take]; omega, fun j hj => by simp [List.getD, hj]⟩⟩
    obtain ⟨b, o, spot⟩ := a
    have hspot : spot = none := by simpa [Addr.add] using World.cell?_spot (hc 0 (by omega))
    subst hspot
    refine ⟨b, o, rfl, ?_, fun j hj => ?_⟩
    · have := hlt (.cell b o) (by rw [hx]; exact MemPlace.mem_row.2 ⟨0, by omega, by simp⟩)
      exact this
    · rw [← add_plain]; exact hc j (by omega)
set_option maxRecDepth 100000 in
theorem open_matrix {base : Nat} {v : Value} {d : DataW H} {p : List MemPlace} (hv : Value.okWide Tryz.prog W .any base 62 v) (h : DataW.Trod enc Tryz.prog W 0 (fun _ => true) true 62 v d p) (hlt : ∀ y ∈ p, y.block < W.heap.size) :
    ∃ (r c : Int) (a0 : Option Addr) (len cap : Nat) (l : List UInt8), v = .agg #[.int .i64 r, .int .i64 c, .slice a0 len cap] ∧ Hand a0 len cap l W ∧ (-9223372036854775808 ≤ r ∧ r ≤ 9223372036854775807) ∧ (-9223372036854775808 ≤ c ∧ c ≤ 9223372036854775807) := by
  obtain ⟨cs, rfl, hsz⟩ := okWide_struct Tryz.underlying62 hv
  obtain ⟨fuel, hf⟩ := h
  have hce : (Value.agg cs).cells = cs := rfl
  rw [hce] at hf
  obtain ⟨y0, y1, y2, n, hx, hlen, h0, h1, h2⟩ := trod_struct3 Tryz.underlying62 hf
  have hc3 : Tryz.prog.cellsOf 62 = 3 := by kernel_rfl
  rw [hc3] at hsz
  obtain ⟨v0, v1, v2, rfl⟩ : ∃ v0 v1 v2, cs = #[v0, v1, v2] := by
    obtain ⟨l⟩ := cs
    match l, hsz with
    | [a, b, c], _ => exact ⟨a, b, c, rfl⟩
  have k0 : Tryz.prog.cellsOf 3 = 1 := by kernel_rfl
  have k2 : Tryz.prog.cellsOf 60 = 1 := by kernel_rfl
  simp only [k0, k2, List.drop_zero, List.drop_succ_cons, List.take_succ_cons, List.take_zero] at h0 h1 h2
  simp only [Prod.mk.injEq] at hx
  obtain ⟨_, hp⟩ := hx
  obtain ⟨r, hr, _, wr⟩ := DataW.trod_int Tryz.underlying3 h0
  obtain ⟨c, hc, _, wc⟩ := DataW.trod_int Tryz.underlying3 h1
  obtain ⟨a0, len, cap, l, hs, hH, _⟩ := open_hand h2 (fun y hy => hlt y (by rw [hp]; simp [hy]))
  simp only [List.cons.injEq, and_true] at hr hc hs
  subst hr; subst hc; subst hs
  exact ⟨r, c, a0, len, cap, l, rfl, hH, wfi wr, wfi wc⟩
end
end Go.Proofs.YteanbflbclmeeaaGreat

/- Pieces that are handed to a law. -/
namespace Go.Proofs.YteanbflbclmeeaaGreat
open Go.ChangeShapes Go.WideShapes Go.ChangeAt Go.RowKit Go.Deep

section
variable {H : Type} {enc : TypeId × Value → H} {W : World}
def boolOf : Value → Bool | .bool b => b | _ => false
def textOfV : Value → ByteArray | .string t => t | _ => .empty
theorem open_pieces {fuel : Nat} {cs : List Value} {x : DataW H × List MemPlace} (h : DataW.trod enc Tryz.prog W 0 (fun _ => true) true fuel 22 cs = some x) (hlt : ∀ y ∈ x.2, y.block < W.heap.size) :
    ∃ (a0 : Option Addr) (len cap : Nat) (has : Nat → Bool) (dat : Nat → ByteArray), cs = [.slice a0 len cap] ∧ PX a0 len has dat W ∧ (a0 = none → cap = 0) ∧ (x.1 = .nil ∧ len = 0 ∨ ∃ e sp, x.1 = .slice e sp ∧ e.length = len) := by
  rcases open_slice_pairs Tryz.underlying22 Tryz.underlying27 (by kernel_rfl) rfl rfl (by kernel_rfl) (by kernel_rfl) h with ⟨hcs, hx⟩ | ⟨a, len, cap, m, n, V0, V1, D0, D1, P0, P1, hcs, _, hl, _, hm, hx, hall⟩
  · exact ⟨none, 0, 0, fun _ => false, fun _ => .empty, hcs, fun h => by omega, fun _ => rfl, .inl ⟨by rw [hx], rfl⟩⟩
  · simp only [if_true] at hm
    refine ⟨some a, len, cap, fun i => boolOf (V0 i), fun i => textOfV (V1 i), hcs, fun h0 => ?_, fun h0 => by (cases h0), .inr ⟨_, _, by rw [hx], by simp⟩⟩
    obtain ⟨b, o, spot⟩ := a
    have hspot : spot = none := by simpa [Addr.add] using World.cell?_spot (hall 0 (by omega)).1
    subst hspot
    refine ⟨b, o, rfl, ?_, fun j hj => ?_⟩
    · exact hlt (.cell b o) (by rw [hx]; exact List.mem_append_left _ (MemPlace.mem_row.2 ⟨0, by omega, by simp⟩))
    · obtain ⟨e0, e1, t0, t1⟩ := hall j (by omega)
      obtain ⟨v, hv, _⟩ := DataW.trod_bool Tryz.underlying4 t0
      obtain ⟨t, ht, _⟩ := DataW.trod_string Tryz.underlying9 t1
      simp only [List.cons.injEq, and_true] at hv ht
      rw [Addr.add_mid] at e0 e1
      rw [hv] at e0
      rw [ht] at e1
      show _ = some (Value.bool (boolOf (V0 j))) ∧ _ = some (Value.string (textOfV (V1 j)))
      rw [hv, ht]
      exact ⟨e0, by rw [Nat.add_assoc]; exact e1⟩
end
end Go.Proofs.YteanbflbclmeeaaGreat

/- Whatever the numbers and the pieces, ErasureRestores answers true and leaves its arguments as they were: the statement ErasureRestoresSaid, with no condition. -/
namespace Go.Proofs.YteanbflbclmeeaaGreat.eResRow
open Go.ChangeShapes Go.WideShapes Go.ChangeAt Go.RowKit
open Go.ChangeMaps (open_string shut_string)

theorem own : ownKnob Tryz.prog.godebug = none := by kernel_rfl
set_option maxRecDepth 100000 in
theorem lifted (os : Os) (started : os.Started) (H : Type) (enc : TypeId × Value → H) :
    ReturnsInHanded {} Tryz.checked os 3 .any (Rows.erasureRestoresSpec.pre6 enc Tryz.prog Tryz.f3 Rows.erasureRestoresRow.domain false) (Rows.erasureRestoresSpec.post enc Tryz.prog Tryz.f3 false true false false) := by
  refine returnsInHanded_of_change_sized (C := Tryz.checked) own started (by kernel_rfl) Tryz.func3
    (ChangeSpec.witness6 (enc := enc) (C := Tryz.checked) false ⟨#[], #[.int .i64 0, .int .i64 0, .int .i64 0, .slice none 0 0], []⟩ 8 (by kernel_rfl) (by kernel_rfl) (by kernel_rfl) (by kernel_rfl)) ?_
  intro W base args ds gs before hval0 hW _ hsz0 _
  have hsz : (DataW.weightsEach Tryz.prog (Tryz.f3.params.toList ++ Rows.erasureRestoresSpec.plain.varTypes Tryz.prog) (ds ++ gs)).all (· ≤ reachBytes) = true := hsz0
  have hval : ∀ (j : Nat) t v, Tryz.f3.params[j]? = some t → args[j]? = some v → Value.okWide Tryz.prog W .any base t v := hval0
  clear hsz0
  have hW' := hW
  obtain ⟨p, q, hA0, hV, rfl, _, _⟩ := hW
  have hA : DataW.TrodAll enc Tryz.prog W 0 (fun _ => true) true Tryz.f3.params.toList args.toList ds p := hA0
  rw [Tryz.params3] at hA hval hsz
  obtain ⟨v0, vs0, d0, ds0, p0, q0, hargs, rfl, rfl, h0, rr0⟩ := trodAll_cons hA
  obtain ⟨v1, vs1, d1, ds1, p1, q1, rfl, rfl, rfl, h1, rr1⟩ := trodAll_cons rr0
  obtain ⟨v2, vs2, d2, ds2, p2, q2, rfl, rfl, rfl, h2, rr2⟩ := trodAll_cons rr1
  obtain ⟨v3, vs3, d3, ds3, p3, q3, rfl, rfl, rfl, h3, rr3⟩ := trodAll_cons rr2
  obtain ⟨rfl, rfl, rfl⟩ := trodAll_nil rr3
  obtain rfl : args = #[v0, v1, v2, v3] := by cases args; simp_all
  obtain ⟨rfl, rfl⟩ := trodVars_none hV
  clear hA0 hval0
  simp only [List.append_nil] at hW'
  obtain ⟨x0, rfl, rfl, rfl, w0⟩ := open_int Tryz.underlying3 (hval 0 3 v0 rfl rfl) h0
  have n0 := wfi w0
  obtain ⟨x1, rfl, rfl, rfl, w1⟩ := open_int Tryz.underlying3 (hval 1 3 v1 rfl rfl) h1
  have n1 := wfi w1
  obtain ⟨x2, rfl, rfl, rfl, w2⟩ := open_int Tryz.underlying3 (hval 2 3 v2 rfl rfl) h2
  have n2 := wfi w2
  have hlt3 : ∀ x ∈ p3, x.block < W.heap.size := fun x hx => by
    have := hW'.lt x (by simp [hx])
    simpa using this
  have k3 := h3
  obtain ⟨a3, len3, cap3, rfl⟩ := okWide_slice Tryz.underlying22 (hval 3 22 v3 rfl rfl)
  obtain ⟨fuel3, hf3⟩ := h3
  obtain ⟨_, _, _, g3, f3, hcs3, H3, Z3, hx3⟩ := open_pieces hf3 hlt3
  simp [Value.cells] at hcs3
  obtain ⟨rfl, rfl, rfl⟩ := hcs3
  have L3 : len3 ≤ 140737488355328 := by
    rcases hx3 with ⟨_, h0⟩ | ⟨e, sp, he, hel⟩
    · omega
    · have := sized_slice hsz (j := 3) (t := 22) (e := 27) (elems := e) (spare := sp) rfl (by simp only [] at he; rw [he]; rfl) Tryz.underlying22
      rw [hel] at this
      rw [show Tryz.prog.bytesOf 27 = 24 from by kernel_rfl] at this
      have hrb : reachBytes < 2 ^ 47 := reachBytes_lt
      omega
  refine (Restores_walk x0 x1 x2 len3 cap3 a3 g3 f3 n0 n2 L3 Z3 W H3).mono fun e W' ⟨he, hb⟩ => ?_
  subst he
  exact ⟨_, rfl, _, _, _, [], _, [], hW', trodAll_mk1 (shut_bool Tryz.underlying4 _), (trodAll_cons_mk (shut_int Tryz.underlying3 w0) (trodAll_cons_mk (shut_int Tryz.underlying3 w1) (trodAll_cons_mk (shut_int Tryz.underlying3 w2) (trodAll_cons_mk (Below.trod mlaidOut (by kernel_rfl) (of_decide_eq_true (by kernel_rfl)) k3 hb hlt3) trodAll_mk0)))), rfl, hb.frame _, fun h => by cases h⟩

/-- ████ THE STATEMENT ████ -/
theorem proved : Rows.ErasureRestoresSaid :=
  OpenClaim.holds_of_wide 3 Tryz.f3 rfl rfl rfl rfl rfl rfl rfl ⟨rfl, rfl, rfl, rfl, rfl⟩ rfl rfl rfl rfl rfl (by kernel_rfl) Tryz.func3 (by kernel_rfl)
    (of_decide_eq_true (by kernel_rfl)) (by unfold Func.isWrapper; first | (rw [if_pos (by decide +kernel)]; kernel_rfl) | (rw [if_neg (by decide +kernel)]; exact ⟨rfl, rfl⟩))
    (fun os started H enc _ => lifted os started H enc)
end Go.Proofs.YteanbflbclmeeaaGreat.eResRow
