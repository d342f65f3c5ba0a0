/- The document's own Read32, Unpack, epoch and Read, of any bytes (JRefU, JRefV, JRefR, JRefQ in one). -/
import Derived.Test.YtbljhodnpddpiaaGreatDoorQ18
import Derived.Test.YtbljhodnpddpiaaGreatDoorQ07
import Derived.Test.YtbljhodnpddpiaaGreatDoorQ15
import Derived.Test.YtbljhodnpddpiaaGreatDoorQ16
import Derived.Test.YtbljhodnpddpiaaGreatDoorQ10
import Derived.Deep.RegionHeld3
import Derived.Deep.CutRange
namespace Go.Proofs.YtbljhodnpddpiaaGreatDoor
section
open Go.RowKit

attribute [local go_sem high] run_index_byte
theorem j_read_at (s : ByteArray) (i : Nat) (hi : i < s.size) (b : UInt8) (hb : b = strAt s i) (k : Int) (hk : k = (i : Int)) (v : World) : (Instr.index 9 (.string s) (.int .i64 k)).run Tryz.prog v = .ok (.int .u8 (b.toNat : Int)) v := by
  rw [hb, hk]; exact run_index_byte v 9 s .i64 i Tryz.underlying9 hi
theorem j_or_add (n : Nat) (c k : Nat) (hc : c < 2 ^ k) : n * 2 ^ k ||| c = n * 2 ^ k + c := by
  have := Nat.shiftLeft_add_eq_or_of_lt (i := k) (b := c) hc n
  rw [Nat.shiftLeft_eq] at this
  exact this.symm
theorem j_ofInt (a : Nat) (ha : a < 9223372036854775808) : (BitVec.ofInt 64 (a : Int)).toNat = a := by
  rw [BitVec.toNat_ofInt]
  omega
theorem j_or_nat (a b : Nat) (ha : a < 9223372036854775808) (hb : b < 9223372036854775808) : bits .or .i64 (a : Int) (b : Int) = ((a ||| b : Nat) : Int) := by
  have hx : a ||| b < 2 ^ 63 := Nat.or_lt_two_pow (by omega) (by omega)
  show IntKind.i64.wrap ((BitVec.ofInt 64 (a : Int) ||| BitVec.ofInt 64 (b : Int)).toNat : Int) = _
  rw [BitVec.toNat_or, j_ofInt a ha, j_ofInt b hb]
  exact IntWalk.i64_in _ (by omega)
theorem j_read_fold (a b c d : UInt8) : bits .or .i64 (bits .or .i64 (bits .or .i64 (wrap64 (wrap64 (a.toNat : Int) * 16777216)) (wrap64 (wrap64 (b.toNat : Int) * 65536))) (wrap64 (wrap64 (c.toNat : Int) * 256))) (wrap64 (d.toNat : Int)) = (Fr.num [a, b, c, d] : Int) := by
  have ha := a.toNat_lt
  have hb := b.toNat_lt
  have hc := c.toNat_lt
  have hd := d.toNat_lt
  have e0 : wrap64 (wrap64 (a.toNat : Int) * 16777216) = ((a.toNat * 2 ^ 24 : Nat) : Int) := by unfold wrap64; omega
  have e1 : wrap64 (wrap64 (b.toNat : Int) * 65536) = ((b.toNat * 2 ^ 16 : Nat) : Int) := by unfold wrap64; omega
  have e2 : wrap64 (wrap64 (c.toNat : Int) * 256) = ((c.toNat * 2 ^ 8 : Nat) : Int) := by unfold wrap64; omega
  have e3 : wrap64 (d.toNat : Int) = (d.toNat : Int) := by unfold wrap64; omega
  rw [e0, e1, e2, e3, j_or_nat _ _ (by omega) (by omega), j_or_add _ _ 24 (by omega)]
  rw [j_or_nat _ _ (by omega) (by omega), show a.toNat * 2 ^ 24 + b.toNat * 2 ^ 16 = (a.toNat * 2 ^ 8 + b.toNat) * 2 ^ 16 by omega, j_or_add _ _ 16 (by omega)]
  rw [j_or_nat _ _ (by omega) (by omega), show (a.toNat * 2 ^ 8 + b.toNat) * 2 ^ 16 + c.toNat * 2 ^ 8 = (a.toNat * 2 ^ 16 + b.toNat * 2 ^ 8 + c.toNat) * 2 ^ 8 by omega, j_or_add _ _ 8 (by omega)]
  rw [Fr.num]
  simp only [List.foldl]
  omega
theorem four_at (s : ByteArray) (k : Nat) (h : k + 4 ≤ s.size) : (s.data.toList.drop k).take 4 = [strAt s k, strAt s (k + 1), strAt s (k + 2), strAt s (k + 3)] := by
  have hl : k + 4 ≤ s.data.toList.length := by rw [size_toList]; exact h
  rw [strAt_eq, strAt_eq, strAt_eq, strAt_eq]
  generalize s.data.toList = l at hl ⊢
  apply List.ext_getElem
  · simp; omega
  · intro i h1 h2
    have h4 : i < 4 := by simpa using h2
    rcases (show i = 0 ∨ i = 1 ∨ i = 2 ∨ i = 3 by omega) with rfl | rfl | rfl | rfl <;> simp [List.getD, List.getElem?_eq_getElem (show k < l.length by omega), List.getElem?_eq_getElem (show k + 1 < l.length by omega), List.getElem?_eq_getElem (show k + 2 < l.length by omega), List.getElem?_eq_getElem (show k + 3 < l.length by omega)]
set_option maxRecDepth 100000 in
set_option maxHeartbeats 2000000 in
theorem rRead4 (s : ByteArray) (k : Nat) (hk : k ≤ 1000) (hs : k + 4 ≤ s.size) (w : World) : Calls Tryz.prog 95 #[.string s, .int .i64 k] w fun e w' => e = .returned (.int .i64 (Fr.num ((s.data.toList.drop k).take 4))) ∧ ∃ n, w' = w.drewN n := by
  rw [four_at s k hs]
  obtain ⟨b0, hb0⟩ : ∃ b, b = strAt s k := ⟨_, rfl⟩
  obtain ⟨b1, hb1⟩ : ∃ b, b = strAt s (k + 1) := ⟨_, rfl⟩
  obtain ⟨b2, hb2⟩ : ∃ b, b = strAt s (k + 2) := ⟨_, rfl⟩
  obtain ⟨b3, hb3⟩ : ∃ b, b = strAt s (k + 3) := ⟨_, rfl⟩
  have i0 := j_read_at s k (by omega) b0 hb0 k (by omega)
  have i1 := j_read_at s (k + 1) (by omega) b1 hb1 ((k : Int) + 1) (by omega)
  have i2 := j_read_at s (k + 2) (by omega) b2 hb2 ((k : Int) + 2) (by omega)
  have i3 := j_read_at s (k + 3) (by omega) b3 hb3 ((k : Int) + 3) (by omega)
  rw [← hb0, ← hb1, ← hb2, ← hb3]
  clear hb0 hb1 hb2 hb3
  go_enter Tryz.func95, Tryz.ntmps95
  go_wp2_with fail
  go_quiet (fail)
  go_wp2_with fail
  go_ret
  exact ⟨by rw [← j_read_fold]; rfl, _, rfl⟩
attribute [local go_sem high] run_index_byte_0
set_option maxRecDepth 100000 in
set_option maxHeartbeats 2000000 in
theorem rUnpack_number (s : ByteArray) (e n m : Nat) (he : e ≤ 4611686018427387904) (hn : n ≤ 4294967295) (h : Looks s m) (hw : Fr.whole m ≤ s.size) (hn1 : (s.extract 8 12).data.toList ≠ Fr.be 4 n) (w : World) :
    Calls Tryz.prog 83 #[.string s, .int .i64 e, .int .i64 n] w fun r w' => r = .returned (.tuple #[.string ⟨#[]⟩, .int .i64 0, .bool false]) ∧ Below w.heap.size w w' := by
  have hb := is_one h.mark
  have hs := h.size
  have h0 : 0 < s.size := by omega
  have h24 : ¬ (s.size : Int) < 24 := by omega
  have hm := h.few
  have hmost := h.most
  obtain ⟨K, hK⟩ : ∃ K, K = (24 + m + 63) / 64 := ⟨_, rfl⟩
  have hwK : Fr.whole m = K * 64 := by unfold Fr.whole; omega
  have hK2 : K * 64 ≤ s.size := by omega
  have hmK : 24 + m ≤ K * 64 := by omega
  have hKb : K ≤ 1000 := by omega
  have hnk : ¬ (s.size : Int) < (K : Int) * 64 := by omega
  have CR4 := Lib.hid (fun v : World => (show Calls Tryz.prog 95 #[.string s, .int .i64 4] v (fun e w' => e = .returned (.int .i64 m) ∧ ∃ n, w' = v.drewN n) by
    have := rRead4 s 4 (by omega) (by omega) v
    rw [show (s.data.toList.drop 4).take 4 = (s.data.toList.take 8).drop 4 by rw [List.drop_take], h.num] at this
    exact this))
  have CSe := Lib.hid (fun v : World => (show Calls Tryz.prog 64 #[.int .i64 (24 + (m : Int))] v (fun r w' => r = .returned (.int .i64 K) ∧ v = w') by
    have := rSectors_any (24 + m) (by omega) v
    rw [show ((24 + m : Nat) : Int) = 24 + (m : Int) by omega, ← hK] at this
    exact this))
  obtain ⟨q8, hq8⟩ : ∃ q, q = bs (Fr.be 4 n) := ⟨_, rfl⟩
  obtain ⟨q12, hq12⟩ : ∃ q, q = bs (Fr.be 8 e) := ⟨_, rfl⟩
  have CU4 := Lib.hid (fun v : World => rU32_any n v)
  rw [← hq8] at CU4
  have CU8 := Lib.hid (fun v : World => rU64_any e (by omega) v)
  rw [← hq12] at CU8
  obtain ⟨R20, hR20⟩ : ∃ x, x = Fr.num ((s.data.toList.drop 20).take 4) := ⟨_, rfl⟩
  have C20 := Lib.hid (fun v : World => (show Calls Tryz.prog 95 #[.string s, .int .i64 20] v (fun e w' => e = .returned (.int .i64 R20) ∧ ∃ n, w' = v.drewN n) by
    rw [hR20]; exact rRead4 s 20 (by omega) (by omega) v))
  have hz1 : (s.extract 4 20).size = 16 := by rw [ByteArray.size_extract]; omega
  have hz2 : (s.extract 24 (24 + m)).size = m := by rw [ByteArray.size_extract]; omega
  have hsum : ¬ 9223372036854775807 < (s.extract 4 20).size + (s.extract 24 (24 + m)).size := by omega
  obtain ⟨X, hX⟩ : ∃ X, X = s.extract 4 20 ++ s.extract 24 (24 + m) := ⟨_, rfl⟩
  have hXs : X.size ≤ 100000 := by rw [hX, ByteArray.size_append]; omega
  obtain ⟨V, hV⟩ : ∃ V, V = (Fr.sum X.data.toList).toNat := ⟨_, rfl⟩
  have hVl : V < 4294967296 := by rw [hV]; exact (Fr.sum X.data.toList).toNat_lt
  have CS := Lib.hid (fun v : World => (show Calls Tryz.prog 98 #[.string (s.extract 4 20 ++ s.extract 24 (24 + m))] v (fun e w' => e = .returned (.int .u32 V) ∧ v = w') by
    rw [← hX, hV]; exact rSum_any X (by omega) v))
  have f1 : ((s.extract 8 12).toList == q8.toList) = false := by rw [ByteArray.toList_eq, ByteArray.toList_eq, beq_eq_false_iff_ne, hq8, bs_list]; exact hn1
  have HHK := Lib.hid hK
  clear h hw hq8 hq12 hR20 hX hXs hV hwK hK hz1 hz2 hmost hn1
  go_enter Tryz.func83, Tryz.ntmps83
  go_wp2_with (first | (go_at_call 95; refine (CR4.out _).mono ?_; rintro r w1 ⟨rfl, k, rfl⟩) | (go_at_call 64; refine (CSe.out _).mono ?_; rintro r w' ⟨rfl, rfl⟩))
  obtain ⟨wk, hwk⟩ : ∃ x, x = w.drewN k := ⟨_, rfl⟩
  have HBK := Lib.hid (show Below w.heap.size w wk by rw [hwk]; exact below_drewN (Below.refl _ _) k)
  rw [← hwk]
  clear hwk
  obtain ⟨S, hS⟩ : ∃ S : World → Prop, S = fun v => Below w.heap.size w v := ⟨_, rfl⟩
  have hSb : ∀ v v', S v → Below v.heap.size v v' → S v' := by rw [hS]; exact fun v v' hv hb => hv.trans (hb.mono hv.size)
  have SC1 := Lib.hid (quiet_S hSb (f := 96) (args := #[.int .i64 n]) (v := .string q8) (fun v _ => CU4.out v))
  have SC2 := Lib.hid (quiet_S hSb (f := 97) (args := #[.int .i64 e]) (v := .string q12) (fun v _ => CU8.out v))
  have SC3 := Lib.hid (quiet_S hSb (f := 95) (args := #[.string s, .int .i64 20]) (v := .int .i64 R20) (fun v _ => (C20.out v).mono fun _ _ ⟨he, k, hk⟩ => ⟨he, hk ▸ below_drewN (Below.refl _ _) k⟩))
  have SC4 := Lib.hid (quiet_S hSb (f := 98) (args := #[.string (s.extract 4 20 ++ s.extract 24 (24 + m))]) (v := .int .u32 V) (fun v _ => (CS.out v).mono fun _ _ ⟨he, hw⟩ => ⟨he, hw ▸ Below.refl _ _⟩))
  have S4 : S wk.drew := by rw [hS]; exact HBK.out.drew
  have HS4 := Lib.hid S4
  haveI : Nonempty (Of S) := ⟨⟨_, S4⟩⟩
  have HSS := Lib.hid hS
  clear S4 hS hSb CU4 CU8 C20 CS CR4
  refine wp_region_S S (by kernel_rfl) (by kernel_rfl) HS4.out ?_
  repeat (go_big_quiet_step (first | (go_at_call 96; with_reducible exact SC1.out _) | (go_at_call 97; with_reducible exact SC2.out _) | (go_at_call 95; with_reducible exact SC3.out _) | (go_at_call 98; with_reducible exact SC4.out _)))
  refine wpQuiet_nil ?_
  rintro w7 ⟨u7, e7⟩
  have h7 : S w7 := e7 ▸ u7.ok
  rw [HSS.out] at h7
  have HB7 := Lib.hid h7
  clear e7 u7 h7 this SC1 SC2 SC3 SC4 HS4 HSS
  go_wp2_with fail
  go_ret3
  exact ⟨rfl, HB7.out⟩
set_option maxRecDepth 100000 in
set_option maxHeartbeats 2000000 in
theorem rUnpack_epoch (s : ByteArray) (e n m : Nat) (he : e ≤ 4611686018427387904) (hn : n ≤ 4294967295) (h : Looks s m) (hw : Fr.whole m ≤ s.size) (hn1 : (s.extract 8 12).data.toList = Fr.be 4 n) (hn2 : (s.extract 12 20).data.toList ≠ Fr.be 8 e) (w : World) :
    Calls Tryz.prog 83 #[.string s, .int .i64 e, .int .i64 n] w fun r w' => r = .returned (.tuple #[.string ⟨#[]⟩, .int .i64 0, .bool false]) ∧ Below w.heap.size w w' := by
  have hb := is_one h.mark
  have hs := h.size
  have h0 : 0 < s.size := by omega
  have h24 : ¬ (s.size : Int) < 24 := by omega
  have hm := h.few
  have hmost := h.most
  obtain ⟨K, hK⟩ : ∃ K, K = (24 + m + 63) / 64 := ⟨_, rfl⟩
  have hwK : Fr.whole m = K * 64 := by unfold Fr.whole; omega
  have hK2 : K * 64 ≤ s.size := by omega
  have hmK : 24 + m ≤ K * 64 := by omega
  have hKb : K ≤ 1000 := by omega
  have hnk : ¬ (s.size : Int) < (K : Int) * 64 := by omega
  have CR4 := Lib.hid (fun v : World => (show Calls Tryz.prog 95 #[.string s, .int .i64 4] v (fun e w' => e = .returned (.int .i64 m) ∧ ∃ n, w' = v.drewN n) by
    have := rRead4 s 4 (by omega) (by omega) v
    rw [show (s.data.toList.drop 4).take 4 = (s.data.toList.take 8).drop 4 by rw [List.drop_take], h.num] at this
    exact this))
  have CSe := Lib.hid (fun v : World => (show Calls Tryz.prog 64 #[.int .i64 (24 + (m : Int))] v (fun r w' => r = .returned (.int .i64 K) ∧ v = w') by
    have := rSectors_any (24 + m) (by omega) v
    rw [show ((24 + m : Nat) : Int) = 24 + (m : Int) by omega, ← hK] at this
    exact this))
  obtain ⟨q8, hq8⟩ : ∃ q, q = bs (Fr.be 4 n) := ⟨_, rfl⟩
  obtain ⟨q12, hq12⟩ : ∃ q, q = bs (Fr.be 8 e) := ⟨_, rfl⟩
  have CU4 := Lib.hid (fun v : World => rU32_any n v)
  rw [← hq8] at CU4
  have CU8 := Lib.hid (fun v : World => rU64_any e (by omega) v)
  rw [← hq12] at CU8
  obtain ⟨R20, hR20⟩ : ∃ x, x = Fr.num ((s.data.toList.drop 20).take 4) := ⟨_, rfl⟩
  have C20 := Lib.hid (fun v : World => (show Calls Tryz.prog 95 #[.string s, .int .i64 20] v (fun e w' => e = .returned (.int .i64 R20) ∧ ∃ n, w' = v.drewN n) by
    rw [hR20]; exact rRead4 s 20 (by omega) (by omega) v))
  have hz1 : (s.extract 4 20).size = 16 := by rw [ByteArray.size_extract]; omega
  have hz2 : (s.extract 24 (24 + m)).size = m := by rw [ByteArray.size_extract]; omega
  have hsum : ¬ 9223372036854775807 < (s.extract 4 20).size + (s.extract 24 (24 + m)).size := by omega
  obtain ⟨X, hX⟩ : ∃ X, X = s.extract 4 20 ++ s.extract 24 (24 + m) := ⟨_, rfl⟩
  have hXs : X.size ≤ 100000 := by rw [hX, ByteArray.size_append]; omega
  obtain ⟨V, hV⟩ : ∃ V, V = (Fr.sum X.data.toList).toNat := ⟨_, rfl⟩
  have hVl : V < 4294967296 := by rw [hV]; exact (Fr.sum X.data.toList).toNat_lt
  have CS := Lib.hid (fun v : World => (show Calls Tryz.prog 98 #[.string (s.extract 4 20 ++ s.extract 24 (24 + m))] v (fun e w' => e = .returned (.int .u32 V) ∧ v = w') by
    rw [← hX, hV]; exact rSum_any X (by omega) v))
  have f1 : ((s.extract 8 12).toList == q8.toList) = true := by rw [ByteArray.toList_eq, ByteArray.toList_eq, beq_iff_eq, hq8, bs_list]; exact hn1
  have f2 : ((s.extract 12 20).toList == q12.toList) = false := by rw [ByteArray.toList_eq, ByteArray.toList_eq, beq_eq_false_iff_ne, hq12, bs_list]; exact hn2
  have HHK := Lib.hid hK
  clear h hw hq8 hq12 hR20 hX hXs hV hwK hK hz1 hz2 hmost hn1 hn2
  go_enter Tryz.func83, Tryz.ntmps83
  go_wp2_with (first | (go_at_call 95; refine (CR4.out _).mono ?_; rintro r w1 ⟨rfl, k, rfl⟩) | (go_at_call 64; refine (CSe.out _).mono ?_; rintro r w' ⟨rfl, rfl⟩))
  obtain ⟨wk, hwk⟩ : ∃ x, x = w.drewN k := ⟨_, rfl⟩
  have HBK := Lib.hid (show Below w.heap.size w wk by rw [hwk]; exact below_drewN (Below.refl _ _) k)
  rw [← hwk]
  clear hwk
  obtain ⟨S, hS⟩ : ∃ S : World → Prop, S = fun v => Below w.heap.size w v := ⟨_, rfl⟩
  have hSb : ∀ v v', S v → Below v.heap.size v v' → S v' := by rw [hS]; exact fun v v' hv hb => hv.trans (hb.mono hv.size)
  have SC1 := Lib.hid (quiet_S hSb (f := 96) (args := #[.int .i64 n]) (v := .string q8) (fun v _ => CU4.out v))
  have SC2 := Lib.hid (quiet_S hSb (f := 97) (args := #[.int .i64 e]) (v := .string q12) (fun v _ => CU8.out v))
  have SC3 := Lib.hid (quiet_S hSb (f := 95) (args := #[.string s, .int .i64 20]) (v := .int .i64 R20) (fun v _ => (C20.out v).mono fun _ _ ⟨he, k, hk⟩ => ⟨he, hk ▸ below_drewN (Below.refl _ _) k⟩))
  have SC4 := Lib.hid (quiet_S hSb (f := 98) (args := #[.string (s.extract 4 20 ++ s.extract 24 (24 + m))]) (v := .int .u32 V) (fun v _ => (CS.out v).mono fun _ _ ⟨he, hw⟩ => ⟨he, hw ▸ Below.refl _ _⟩))
  have S4 : S wk.drew := by rw [hS]; exact HBK.out.drew
  have HS4 := Lib.hid S4
  haveI : Nonempty (Of S) := ⟨⟨_, S4⟩⟩
  have HSS := Lib.hid hS
  clear S4 hS hSb CU4 CU8 C20 CS CR4
  refine wp_region_S S (by kernel_rfl) (by kernel_rfl) HS4.out ?_
  repeat (go_big_quiet_step (first | (go_at_call 96; with_reducible exact SC1.out _) | (go_at_call 97; with_reducible exact SC2.out _) | (go_at_call 95; with_reducible exact SC3.out _) | (go_at_call 98; with_reducible exact SC4.out _)))
  refine wpQuiet_nil ?_
  rintro w7 ⟨u7, e7⟩
  have h7 : S w7 := e7 ▸ u7.ok
  rw [HSS.out] at h7
  have HB7 := Lib.hid h7
  clear e7 u7 h7 this SC1 SC2 SC3 SC4 HS4 HSS
  go_wp2_with fail
  go_ret3
  exact ⟨rfl, HB7.out⟩
set_option maxRecDepth 100000 in
set_option maxHeartbeats 2000000 in
theorem rUnpack_sum (s : ByteArray) (e n m : Nat) (he : e ≤ 4611686018427387904) (hn : n ≤ 4294967295) (h : Looks s m) (hw : Fr.whole m ≤ s.size) (hn1 : (s.extract 8 12).data.toList = Fr.be 4 n) (hn2 : (s.extract 12 20).data.toList = Fr.be 8 e) (hn3 : Fr.num ((s.data.toList.drop 20).take 4) ≠ (Fr.sum (s.extract 4 20 ++ s.extract 24 (24 + m)).data.toList).toNat) (w : World) :
    Calls Tryz.prog 83 #[.string s, .int .i64 e, .int .i64 n] w fun r w' => r = .returned (.tuple #[.string ⟨#[]⟩, .int .i64 0, .bool false]) ∧ Below w.heap.size w w' := by
  have hb := is_one h.mark
  have hs := h.size
  have h0 : 0 < s.size := by omega
  have h24 : ¬ (s.size : Int) < 24 := by omega
  have hm := h.few
  have hmost := h.most
  obtain ⟨K, hK⟩ : ∃ K, K = (24 + m + 63) / 64 := ⟨_, rfl⟩
  have hwK : Fr.whole m = K * 64 := by unfold Fr.whole; omega
  have hK2 : K * 64 ≤ s.size := by omega
  have hmK : 24 + m ≤ K * 64 := by omega
  have hKb : K ≤ 1000 := by omega
  have hnk : ¬ (s.size : Int) < (K : Int) * 64 := by omega
  have CR4 := Lib.hid (fun v : World => (show Calls Tryz.prog 95 #[.string s, .int .i64 4] v (fun e w' => e = .returned (.int .i64 m) ∧ ∃ n, w' = v.drewN n) by
    have := rRead4 s 4 (by omega) (by omega) v
    rw [show (s.data.toList.drop 4).take 4 = (s.data.toList.take 8).drop 4 by rw [List.drop_take], h.num] at this
    exact this))
  have CSe := Lib.hid (fun v : World => (show Calls Tryz.prog 64 #[.int .i64 (24 + (m : Int))] v (fun r w' => r = .returned (.int .i64 K) ∧ v = w') by
    have := rSectors_any (24 + m) (by omega) v
    rw [show ((24 + m : Nat) : Int) = 24 + (m : Int) by omega, ← hK] at this
    exact this))
  obtain ⟨q8, hq8⟩ : ∃ q, q = bs (Fr.be 4 n) := ⟨_, rfl⟩
  obtain ⟨q12, hq12⟩ : ∃ q, q = bs (Fr.be 8 e) := ⟨_, rfl⟩
  have CU4 := Lib.hid (fun v : World => rU32_any n v)
  rw [← hq8] at CU4
  have CU8 := Lib.hid (fun v : World => rU64_any e (by omega) v)
  rw [← hq12] at CU8
  obtain ⟨R20, hR20⟩ : ∃ x, x = Fr.num ((s.data.toList.drop 20).take 4) := ⟨_, rfl⟩
  have C20 := Lib.hid (fun v : World => (show Calls Tryz.prog 95 #[.string s, .int .i64 20] v (fun e w' => e = .returned (.int .i64 R20) ∧ ∃ n, w' = v.drewN n) by
    rw [hR20]; exact rRead4 s 20 (by omega) (by omega) v))
  have hz1 : (s.extract 4 20).size = 16 := by rw [ByteArray.size_extract]; omega
  have hz2 : (s.extract 24 (24 + m)).size = m := by rw [ByteArray.size_extract]; omega
  have hsum : ¬ 9223372036854775807 < (s.extract 4 20).size + (s.extract 24 (24 + m)).size := by omega
  obtain ⟨X, hX⟩ : ∃ X, X = s.extract 4 20 ++ s.extract 24 (24 + m) := ⟨_, rfl⟩
  have hXs : X.size ≤ 100000 := by rw [hX, ByteArray.size_append]; omega
  obtain ⟨V, hV⟩ : ∃ V, V = (Fr.sum X.data.toList).toNat := ⟨_, rfl⟩
  have hVl : V < 4294967296 := by rw [hV]; exact (Fr.sum X.data.toList).toNat_lt
  have CS := Lib.hid (fun v : World => (show Calls Tryz.prog 98 #[.string (s.extract 4 20 ++ s.extract 24 (24 + m))] v (fun e w' => e = .returned (.int .u32 V) ∧ v = w') by
    rw [← hX, hV]; exact rSum_any X (by omega) v))
  have f1 : ((s.extract 8 12).toList == q8.toList) = true := by rw [ByteArray.toList_eq, ByteArray.toList_eq, beq_iff_eq, hq8, bs_list]; exact hn1
  have f2 : ((s.extract 12 20).toList == q12.toList) = true := by rw [ByteArray.toList_eq, ByteArray.toList_eq, beq_iff_eq, hq12, bs_list]; exact hn2
  have f3 : ((R20 : Int) == (V : Int)) = false := by rw [beq_eq_false_iff_ne, hR20, hV, hX]; exact fun e => hn3 (Int.ofNat_inj.1 e)
  have HHK := Lib.hid hK
  clear h hw hq8 hq12 hR20 hX hXs hV hwK hK hz1 hz2 hmost hn1 hn2 hn3
  go_enter Tryz.func83, Tryz.ntmps83
  go_wp2_with (first | (go_at_call 95; refine (CR4.out _).mono ?_; rintro r w1 ⟨rfl, k, rfl⟩) | (go_at_call 64; refine (CSe.out _).mono ?_; rintro r w' ⟨rfl, rfl⟩))
  obtain ⟨wk, hwk⟩ : ∃ x, x = w.drewN k := ⟨_, rfl⟩
  have HBK := Lib.hid (show Below w.heap.size w wk by rw [hwk]; exact below_drewN (Below.refl _ _) k)
  rw [← hwk]
  clear hwk
  obtain ⟨S, hS⟩ : ∃ S : World → Prop, S = fun v => Below w.heap.size w v := ⟨_, rfl⟩
  have hSb : ∀ v v', S v → Below v.heap.size v v' → S v' := by rw [hS]; exact fun v v' hv hb => hv.trans (hb.mono hv.size)
  have SC1 := Lib.hid (quiet_S hSb (f := 96) (args := #[.int .i64 n]) (v := .string q8) (fun v _ => CU4.out v))
  have SC2 := Lib.hid (quiet_S hSb (f := 97) (args := #[.int .i64 e]) (v := .string q12) (fun v _ => CU8.out v))
  have SC3 := Lib.hid (quiet_S hSb (f := 95) (args := #[.string s, .int .i64 20]) (v := .int .i64 R20) (fun v _ => (C20.out v).mono fun _ _ ⟨he, k, hk⟩ => ⟨he, hk ▸ below_drewN (Below.refl _ _) k⟩))
  have SC4 := Lib.hid (quiet_S hSb (f := 98) (args := #[.string (s.extract 4 20 ++ s.extract 24 (24 + m))]) (v := .int .u32 V) (fun v _ => (CS.out v).mono fun _ _ ⟨he, hw⟩ => ⟨he, hw ▸ Below.refl _ _⟩))
  have S4 : S wk.drew := by rw [hS]; exact HBK.out.drew
  have HS4 := Lib.hid S4
  haveI : Nonempty (Of S) := ⟨⟨_, S4⟩⟩
  have HSS := Lib.hid hS
  clear S4 hS hSb CU4 CU8 C20 CS CR4
  refine wp_region_S S (by kernel_rfl) (by kernel_rfl) HS4.out ?_
  repeat (go_big_quiet_step (first | (go_at_call 96; with_reducible exact SC1.out _) | (go_at_call 97; with_reducible exact SC2.out _) | (go_at_call 95; with_reducible exact SC3.out _) | (go_at_call 98; with_reducible exact SC4.out _)))
  refine wpQuiet_nil ?_
  rintro w7 ⟨u7, e7⟩
  have h7 : S w7 := e7 ▸ u7.ok
  rw [HSS.out] at h7
  have HB7 := Lib.hid h7
  clear e7 u7 h7 this SC1 SC2 SC3 SC4 HS4 HSS
  go_wp2_with fail
  go_ret3
  exact ⟨rfl, HB7.out⟩
set_option maxRecDepth 100000 in
set_option maxHeartbeats 2000000 in
theorem rUnpack_yes (s : ByteArray) (e n m : Nat) (p : List UInt8) (he : e ≤ 4611686018427387904) (hn : n ≤ 4294967295) (h : Looks s m) (hw : Fr.whole m ≤ s.size) (hp : (s.extract 24 (24 + m)).data.toList = p) (hn1 : (s.extract 8 12).data.toList = Fr.be 4 n) (hn2 : (s.extract 12 20).data.toList = Fr.be 8 e) (hn3 : Fr.num ((s.data.toList.drop 20).take 4) = (Fr.sum (s.extract 4 20 ++ s.extract 24 (24 + m)).data.toList).toNat) (w : World) :
    Calls Tryz.prog 83 #[.string s, .int .i64 e, .int .i64 n] w fun r w' => r = .returned (.tuple #[.string (bs p), .int .i64 (Fr.whole m : Nat), .bool true]) ∧ Below w.heap.size w w' := by
  have hb := is_one h.mark
  have hs := h.size
  have h0 : 0 < s.size := by omega
  have h24 : ¬ (s.size : Int) < 24 := by omega
  have hm := h.few
  have hmost := h.most
  obtain ⟨K, hK⟩ : ∃ K, K = (24 + m + 63) / 64 := ⟨_, rfl⟩
  have hwK : Fr.whole m = K * 64 := by unfold Fr.whole; omega
  have hK2 : K * 64 ≤ s.size := by omega
  have hmK : 24 + m ≤ K * 64 := by omega
  have hKb : K ≤ 1000 := by omega
  have hnk : ¬ (s.size : Int) < (K : Int) * 64 := by omega
  have CR4 := Lib.hid (fun v : World => (show Calls Tryz.prog 95 #[.string s, .int .i64 4] v (fun e w' => e = .returned (.int .i64 m) ∧ ∃ n, w' = v.drewN n) by
    have := rRead4 s 4 (by omega) (by omega) v
    rw [show (s.data.toList.drop 4).take 4 = (s.data.toList.take 8).drop 4 by rw [List.drop_take], h.num] at this
    exact this))
  have CSe := Lib.hid (fun v : World => (show Calls Tryz.prog 64 #[.int .i64 (24 + (m : Int))] v (fun r w' => r = .returned (.int .i64 K) ∧ v = w') by
    have := rSectors_any (24 + m) (by omega) v
    rw [show ((24 + m : Nat) : Int) = 24 + (m : Int) by omega, ← hK] at this
    exact this))
  obtain ⟨q8, hq8⟩ : ∃ q, q = bs (Fr.be 4 n) := ⟨_, rfl⟩
  obtain ⟨q12, hq12⟩ : ∃ q, q = bs (Fr.be 8 e) := ⟨_, rfl⟩
  have CU4 := Lib.hid (fun v : World => rU32_any n v)
  rw [← hq8] at CU4
  have CU8 := Lib.hid (fun v : World => rU64_any e (by omega) v)
  rw [← hq12] at CU8
  obtain ⟨R20, hR20⟩ : ∃ x, x = Fr.num ((s.data.toList.drop 20).take 4) := ⟨_, rfl⟩
  have C20 := Lib.hid (fun v : World => (show Calls Tryz.prog 95 #[.string s, .int .i64 20] v (fun e w' => e = .returned (.int .i64 R20) ∧ ∃ n, w' = v.drewN n) by
    rw [hR20]; exact rRead4 s 20 (by omega) (by omega) v))
  have hz1 : (s.extract 4 20).size = 16 := by rw [ByteArray.size_extract]; omega
  have hz2 : (s.extract 24 (24 + m)).size = m := by rw [ByteArray.size_extract]; omega
  have hsum : ¬ 9223372036854775807 < (s.extract 4 20).size + (s.extract 24 (24 + m)).size := by omega
  obtain ⟨X, hX⟩ : ∃ X, X = s.extract 4 20 ++ s.extract 24 (24 + m) := ⟨_, rfl⟩
  have hXs : X.size ≤ 100000 := by rw [hX, ByteArray.size_append]; omega
  obtain ⟨V, hV⟩ : ∃ V, V = (Fr.sum X.data.toList).toNat := ⟨_, rfl⟩
  have hVl : V < 4294967296 := by rw [hV]; exact (Fr.sum X.data.toList).toNat_lt
  have CS := Lib.hid (fun v : World => (show Calls Tryz.prog 98 #[.string (s.extract 4 20 ++ s.extract 24 (24 + m))] v (fun e w' => e = .returned (.int .u32 V) ∧ v = w') by
    rw [← hX, hV]; exact rSum_any X (by omega) v))
  have f1 : ((s.extract 8 12).toList == q8.toList) = true := by rw [ByteArray.toList_eq, ByteArray.toList_eq, beq_iff_eq, hq8, bs_list]; exact hn1
  have f2 : ((s.extract 12 20).toList == q12.toList) = true := by rw [ByteArray.toList_eq, ByteArray.toList_eq, beq_iff_eq, hq12, bs_list]; exact hn2
  have f3 : ((R20 : Int) == (V : Int)) = true := by rw [beq_iff_eq, hR20, hV, hX]; exact congrArg _ hn3
  have HP := Lib.hid (bs_of hp)
  have HWK := Lib.hid hwK
  have HHK := Lib.hid hK
  clear h hw hp hq8 hq12 hR20 hX hXs hV hwK hK hz1 hz2 hmost hn1 hn2 hn3
  go_enter Tryz.func83, Tryz.ntmps83
  go_wp2_with (first | (go_at_call 95; refine (CR4.out _).mono ?_; rintro r w1 ⟨rfl, k, rfl⟩) | (go_at_call 64; refine (CSe.out _).mono ?_; rintro r w' ⟨rfl, rfl⟩))
  obtain ⟨wk, hwk⟩ : ∃ x, x = w.drewN k := ⟨_, rfl⟩
  have HBK := Lib.hid (show Below w.heap.size w wk by rw [hwk]; exact below_drewN (Below.refl _ _) k)
  rw [← hwk]
  clear hwk
  obtain ⟨S, hS⟩ : ∃ S : World → Prop, S = fun v => Below w.heap.size w v := ⟨_, rfl⟩
  have hSb : ∀ v v', S v → Below v.heap.size v v' → S v' := by rw [hS]; exact fun v v' hv hb => hv.trans (hb.mono hv.size)
  have SC1 := Lib.hid (quiet_S hSb (f := 96) (args := #[.int .i64 n]) (v := .string q8) (fun v _ => CU4.out v))
  have SC2 := Lib.hid (quiet_S hSb (f := 97) (args := #[.int .i64 e]) (v := .string q12) (fun v _ => CU8.out v))
  have SC3 := Lib.hid (quiet_S hSb (f := 95) (args := #[.string s, .int .i64 20]) (v := .int .i64 R20) (fun v _ => (C20.out v).mono fun _ _ ⟨he, k, hk⟩ => ⟨he, hk ▸ below_drewN (Below.refl _ _) k⟩))
  have SC4 := Lib.hid (quiet_S hSb (f := 98) (args := #[.string (s.extract 4 20 ++ s.extract 24 (24 + m))]) (v := .int .u32 V) (fun v _ => (CS.out v).mono fun _ _ ⟨he, hw⟩ => ⟨he, hw ▸ Below.refl _ _⟩))
  have S4 : S wk.drew := by rw [hS]; exact HBK.out.drew
  have HS4 := Lib.hid S4
  haveI : Nonempty (Of S) := ⟨⟨_, S4⟩⟩
  have HSS := Lib.hid hS
  clear S4 hS hSb CU4 CU8 C20 CS CR4
  refine wp_region_S S (by kernel_rfl) (by kernel_rfl) HS4.out ?_
  repeat (go_big_quiet_step (first | (go_at_call 96; with_reducible exact SC1.out _) | (go_at_call 97; with_reducible exact SC2.out _) | (go_at_call 95; with_reducible exact SC3.out _) | (go_at_call 98; with_reducible exact SC4.out _)))
  refine wpQuiet_nil ?_
  rintro w7 ⟨u7, e7⟩
  have h7 : S w7 := e7 ▸ u7.ok
  rw [HSS.out] at h7
  have HB7 := Lib.hid h7
  clear e7 u7 h7 this SC1 SC2 SC3 SC4 HS4 HSS
  go_wp2_with fail
  have CSq := Lib.hid (fun v : World => (CSe.out v).mono (R' := fun r w' => r = .returned (.int .i64 K) ∧ w' = v) (fun _ _ h => ⟨h.1, h.2.symm⟩))
  go_quiet (first | (go_at_call 64; exact Calls.quiet_of_same (CSq.out _)))
  go_wp2
  go_ret3
  exact ⟨by rw [HP.out, HWK.out]; rfl, below_drewN HB7.out _⟩
end
section
open Go.RowKit
attribute [local go_sem high] run_index_byte_0

theorem head_parts (l : List UInt8) : (l.take 12).drop 8 = (((l.take 20).drop 4).drop 4).take 4 ∧ (l.take 20).drop 12 = ((l.take 20).drop 4).drop 8 ∧ (l.take 8).drop 4 = ((l.take 20).drop 4).take 4 := by
  refine ⟨?_, ?_, ?_⟩ <;> simp [List.drop_take, List.drop_drop, List.take_take]
theorem rUnpack_rec (s : ByteArray) (e n : Nat) (p : List UInt8) (he : e ≤ 4611686018427387904) (hn : n ≤ 4294967295) (h : IsRec s e n p) (w : World) :
    Calls Tryz.prog 83 #[.string s, .int .i64 e, .int .i64 n] w fun r w' => r = .returned (.tuple #[.string (bs p), .int .i64 (Fr.whole p.length : Nat), .bool true]) ∧ Below w.heap.size w w' := by
  obtain ⟨p1, p2, _⟩ := head_parts s.data.toList
  have hh := h.head
  rw [extract_list, ← Fr.headOf_eq] at hh
  rw [hh] at p1 p2
  rw [List.append_assoc, List.drop_left' (Fr.length_be _ _), List.take_left' (Fr.length_be _ _)] at p1
  rw [List.drop_left' (by rw [List.length_append, Fr.length_be, Fr.length_be])] at p2
  refine rUnpack_yes s e n p.length p he hn h.looks h.whole h.text (by rw [extract_list, p1]) (by rw [extract_list, p2]) ?_ w
  have hx := h.sum
  rw [extract_list, List.drop_take, show 24 - 20 = 4 from rfl, Fr.sumOf] at hx
  rw [hx, Fr.num_be_lt (by have := (Fr.more (Fr.sum (Fr.headOf e n p.length)) p).toNat_lt; omega)]
  rw [show (s.extract 4 20 ++ s.extract 24 (24 + p.length)).data.toList = (s.extract 4 20).data.toList ++ (s.extract 24 (24 + p.length)).data.toList by simp, h.head, h.text, Fr.sum_append]
set_option maxRecDepth 100000 in
set_option maxHeartbeats 1000000 in
theorem rUnpack_short (s : ByteArray) (e n : Nat) (hs : s.size < 24) (w : World) :
    Calls Tryz.prog 83 #[.string s, .int .i64 e, .int .i64 n] w fun r w' => r = .returned (.tuple #[.string ⟨#[]⟩, .int .i64 0, .bool false]) ∧ Below w.heap.size w w' := by
  have h1 : (s.size : Int) < 24 := by omega
  clear hs
  go_enter Tryz.func83, Tryz.ntmps83
  go_wp2_with fail
  go_ret3
  exact ⟨rfl, Below.refl _ _⟩
set_option maxRecDepth 100000 in
set_option maxHeartbeats 1000000 in
theorem rUnpack_mark (s : ByteArray) (e n : Nat) (hs : 24 ≤ s.size) (h : strAt s 0 ≠ 1) (w : World) :
    Calls Tryz.prog 83 #[.string s, .int .i64 e, .int .i64 n] w fun r w' => r = .returned (.tuple #[.string ⟨#[]⟩, .int .i64 0, .bool false]) ∧ Below w.heap.size w w' := by
  have h1 : ¬ (s.size : Int) < 24 := by omega
  have h0 : 0 < s.size := by omega
  have hb := not_one h
  clear h hs
  go_enter Tryz.func83, Tryz.ntmps83
  go_wp2_with fail
  go_ret3
  exact ⟨rfl, Below.refl _ _⟩
set_option maxRecDepth 100000 in
set_option maxHeartbeats 1000000 in
theorem rUnpack_big (s : ByteArray) (e n m : Nat) (he : e ≤ 4611686018427387904) (hn : n ≤ 4294967295) (hs : 24 ≤ s.size) (hmark : strAt s 0 = 1) (hnum : Fr.num ((s.data.toList.take 8).drop 4) = m) (hm : 60000 < m) (w : World) :
    Calls Tryz.prog 83 #[.string s, .int .i64 e, .int .i64 n] w fun r w' => r = .returned (.tuple #[.string ⟨#[]⟩, .int .i64 0, .bool false]) ∧ Below w.heap.size w w' := by
  have h1 : ¬ (s.size : Int) < 24 := by omega
  have h0 : 0 < s.size := by omega
  have hb := is_one hmark
  have CR4 := Lib.hid (fun v : World => (show Calls Tryz.prog 95 #[.string s, .int .i64 4] v (fun e w' => e = .returned (.int .i64 m) ∧ ∃ n, w' = v.drewN n) by
    have := rRead4 s 4 (by omega) (by omega) v
    rw [show (s.data.toList.drop 4).take 4 = (s.data.toList.take 8).drop 4 by rw [List.drop_take], hnum] at this
    exact this))
  clear hmark hnum hs
  go_enter Tryz.func83, Tryz.ntmps83
  go_wp2_with (first | (go_at_call 95; refine (CR4.out _).mono ?_; rintro r w1 ⟨rfl, k, rfl⟩))
  go_ret3
  exact ⟨rfl, below_drewN (Below.refl _ _) _⟩
set_option maxRecDepth 100000 in
set_option maxHeartbeats 1000000 in
theorem rUnpack_long (s : ByteArray) (e n m : Nat) (he : e ≤ 4611686018427387904) (hn : n ≤ 4294967295) (hs : 24 ≤ s.size) (hmark : strAt s 0 = 1) (hnum : Fr.num ((s.data.toList.take 8).drop 4) = m) (hm : m ≤ 60000) (hw : s.size < Fr.whole m) (w : World) :
    Calls Tryz.prog 83 #[.string s, .int .i64 e, .int .i64 n] w fun r w' => r = .returned (.tuple #[.string ⟨#[]⟩, .int .i64 0, .bool false]) ∧ Below w.heap.size w w' := by
  have h1 : ¬ (s.size : Int) < 24 := by omega
  have h0 : 0 < s.size := by omega
  have hb := is_one hmark
  obtain ⟨K, hK⟩ : ∃ K, K = (24 + m + 63) / 64 := ⟨_, rfl⟩
  have hwK : Fr.whole m = K * 64 := by unfold Fr.whole; omega
  have hKb : K ≤ 1000 := by omega
  have hnk : (s.size : Int) < (K : Int) * 64 := by omega
  have CR4 := Lib.hid (fun v : World => (show Calls Tryz.prog 95 #[.string s, .int .i64 4] v (fun e w' => e = .returned (.int .i64 m) ∧ ∃ n, w' = v.drewN n) by
    have := rRead4 s 4 (by omega) (by omega) v
    rw [show (s.data.toList.drop 4).take 4 = (s.data.toList.take 8).drop 4 by rw [List.drop_take], hnum] at this
    exact this))
  have CSe := Lib.hid (fun v : World => (show Calls Tryz.prog 64 #[.int .i64 (24 + (m : Int))] v (fun r w' => r = .returned (.int .i64 K) ∧ v = w') by
    have := rSectors_any (24 + m) (by omega) v
    rw [show ((24 + m : Nat) : Int) = 24 + (m : Int) by omega, ← hK] at this
    exact this))
  clear hmark hnum hs hK hwK hw
  go_enter Tryz.func83, Tryz.ntmps83
  go_wp2_with (first | (go_at_call 95; refine (CR4.out _).mono ?_; rintro r w1 ⟨rfl, k, rfl⟩) | (go_at_call 64; refine (CSe.out _).mono ?_; rintro r w' ⟨rfl, rfl⟩))
  go_ret3
  exact ⟨rfl, below_drewN (Below.refl _ _) _⟩
theorem rUnpack_not (s : ByteArray) (e n : Nat) (he : e ≤ 4611686018427387904) (hn : n ≤ 4294967295) (hs : s.size < 24 ∨ 64 ≤ s.size) (hmost : s.size ≤ 281474976710656) (h : NotRec s e n) (w : World) :
    Calls Tryz.prog 83 #[.string s, .int .i64 e, .int .i64 n] w fun r w' => r = .returned (.tuple #[.string ⟨#[]⟩, .int .i64 0, .bool false]) ∧ Below w.heap.size w w' := by
  rcases hs with hs | hs
  · exact rUnpack_short s e n hs w
  · by_cases hmark : strAt s 0 = 1
    · obtain ⟨m, hm⟩ : ∃ m, Fr.num ((s.data.toList.take 8).drop 4) = m := ⟨_, rfl⟩
      by_cases hbig : 60000 < m
      · exact rUnpack_big s e n m he hn (by omega) hmark hm hbig w
      · by_cases hw : s.size < Fr.whole m
        · exact rUnpack_long s e n m he hn (by omega) hmark hm (by omega) hw w
        · have hL : Looks s m := ⟨hs, hmost, hmark, hm, by omega⟩
          by_cases h1 : (s.extract 8 12).data.toList = Fr.be 4 n
          · by_cases h2 : (s.extract 12 20).data.toList = Fr.be 8 e
            · by_cases h3 : Fr.num ((s.data.toList.drop 20).take 4) = (Fr.sum (s.extract 4 20 ++ s.extract 24 (24 + m)).data.toList).toNat
              · exfalso
                obtain ⟨p, hp⟩ : ∃ p, (s.extract 24 (24 + m)).data.toList = p := ⟨_, rfl⟩
                have hl : s.data.toList.length = s.size := size_toList s
                have hpl : p.length = m := by
                  have := Fr.whole_ge m
                  rw [← hp, extract_list, List.length_drop, List.length_take, size_toList]; omega
                obtain ⟨p1, p2, p3⟩ := head_parts s.data.toList
                have hz : (((s.data.toList.take 20).drop 4).take 4).length = 4 := by rw [List.length_take, List.length_drop, List.length_take]; omega
                have hb4 : ((s.data.toList.take 20).drop 4).take 4 = Fr.be 4 m := by rw [← hm, p3, Fr.be_num hz]
                have hhd : (s.extract 4 20).data.toList = Fr.headOf e n m := by
                  rw [extract_list] at h1 h2 ⊢
                  rw [p1] at h1
                  rw [p2] at h2
                  generalize (s.data.toList.take 20).drop 4 = L at hb4 h1 h2
                  rw [← Fr.headOf_eq, ← hb4, ← h1, ← h2]
                  rw [show (L.drop 8) = (L.drop 4).drop 4 by rw [List.drop_drop], List.append_assoc, List.take_append_drop, List.take_append_drop]
                refine h p ⟨by rw [hpl]; exact hL, by rw [hpl]; exact hhd, by rw [hpl]; omega, by rw [hpl]; exact hp, ?_⟩
                have e1 : (s.extract 20 24).data.toList = (s.data.toList.drop 20).take 4 := by rw [extract_list, List.drop_take]
                have e2 : ((s.data.toList.drop 20).take 4).length = 4 := by rw [List.length_take, List.length_drop]; omega
                rw [e1, hpl, Fr.sumOf, ← hhd, Fr.sum_append, ← hp, ← Fr.be_num e2, h3]
                rw [show (s.extract 4 20 ++ s.extract 24 (24 + m)).data.toList = (s.extract 4 20).data.toList ++ (s.extract 24 (24 + m)).data.toList by simp]
              · exact rUnpack_sum s e n m he hn hL (by omega) h1 h2 h3 w
            · exact rUnpack_epoch s e n m he hn hL (by omega) h1 h2 w
          · exact rUnpack_number s e n m he hn hL (by omega) h1 w
    · exact rUnpack_mark s e n (by omega) hmark w
end
section
open Go.RowKit

theorem num_append (a b : List UInt8) : Fr.num (a ++ b) = Fr.num a * 256 ^ b.length + Fr.num b := by
  rw [← Fr.numFrom_eq, Fr.num, Fr.num, List.foldl_append]
theorem num_eight (l : List UInt8) (h : 20 ≤ l.length) : Fr.num ((l.drop 12).take 8) = Fr.num ((l.drop 12).take 4) * 4294967296 + Fr.num ((l.drop 16).take 4) := by
  have e : (l.drop 12).take 8 = (l.drop 12).take 4 ++ (l.drop 16).take 4 := by
    rw [show (8 : Nat) = 4 + 4 from rfl, List.take_add, List.drop_drop]
  rw [e, num_append, show ((l.drop 16).take 4).length = 4 by rw [List.length_take, List.length_drop]; omega]
theorem or_words (A B : Nat) (hA : A < 2147483648) (hB : B < 4294967296) : bits .or .i64 (wrap64 ((A : Int) * 4294967296)) (B : Int) = ((A * 4294967296 + B : Nat) : Int) := by
  rw [show wrap64 ((A : Int) * 4294967296) = ((A * 2 ^ 32 : Nat) : Int) by unfold wrap64; omega, j_or_nat _ _ (by omega) (by omega), j_or_add _ _ 32 (by omega)]
set_option maxRecDepth 100000 in
set_option maxHeartbeats 1000000 in
theorem repoch_walk (s : ByteArray) (R N A B : Nat) (hs : 64 ≤ s.size) (hs2 : s.size ≤ 1000000) (b12 : UInt8) (hb12 : b12 = strAt s 12) (hlow : b12.toNat < 128)
    (hA : A = Fr.num ((s.data.toList.drop 12).take 4)) (hB : B = Fr.num ((s.data.toList.drop 16).take 4)) (hAl : A < 2147483648) (hBl : B < 4294967296) (hN : A * 4294967296 + B = N)
    (hR : ((N = 0 ∨ 4611686018427387904 < N) ∧ R = 0) ∨ (1 ≤ N ∧ N ≤ 4611686018427387904 ∧ ((NotRec (s.extract 0 64) N 0 ∧ R = 0) ∨ (∃ p, IsRec (s.extract 0 64) N 0 p ∧ ((p = title ∧ R = N) ∨ (p ≠ title ∧ R = 0)))))) (w : World) :
    Calls Tryz.prog 82 #[.string s] w fun e w' => e = .returned (.int .i64 R) ∧ Below w.heap.size w w' := by
  have i12 := j_read_at s 12 (by omega) b12 hb12 12 (by omega)
  have h64 : ¬ (s.size : Int) < 64 := by omega
  have hl : ¬ (128 : Int) ≤ (b12.toNat : Int) := by omega
  have C12 := Lib.hid (fun v : World => (show Calls Tryz.prog 95 #[.string s, .int .i64 12] v (fun e w' => e = .returned (.int .i64 A) ∧ ∃ n, w' = v.drewN n) by
    rw [hA]; exact rRead4 s 12 (by omega) (by omega) v))
  have C16 := Lib.hid (fun v : World => (show Calls Tryz.prog 95 #[.string s, .int .i64 16] v (fun e w' => e = .returned (.int .i64 B) ∧ ∃ n, w' = v.drewN n) by
    rw [hB]; exact rRead4 s 16 (by omega) (by omega) v))
  have hxs : (s.extract 0 64).size = 64 := by rw [ByteArray.size_extract]; omega
  have hfold : bits .or .i64 ((A : Int) * 4294967296) (B : Int) = (N : Int) := by
    have := or_words A B hAl hBl
    rw [show wrap64 ((A : Int) * 4294967296) = (A : Int) * 4294967296 by unfold wrap64; omega] at this
    rw [this, hN]
  clear hb12 hlow hA hB hN
  rcases hR with ⟨hN, rfl⟩ | ⟨hN1, hN2, ⟨hR, rfl⟩ | ⟨p, hp, ⟨rfl, rfl⟩ | ⟨ht, rfl⟩⟩⟩
  · clear hxs
    by_cases h0 : N = 0
    · have h1 : (N : Int) < 1 := by omega
      clear hN h0
      go_enter Tryz.func82, Tryz.ntmps82
      go_wp2_with (go_at_call 95; first | (with_reducible refine (C12.out _).mono ?_; rintro r w1 ⟨rfl, k1, rfl⟩) | (with_reducible refine (C16.out _).mono ?_; rintro r w2 ⟨rfl, k2, rfl⟩))
      go_ret
      exact ⟨rfl, below_drewN (Below.refl _ _) _⟩
    · have h1 : ¬ (N : Int) < 1 := by omega
      have h2 : (4611686018427387904 : Int) < (N : Int) := by omega
      clear hN h0
      go_enter Tryz.func82, Tryz.ntmps82
      go_wp2_with (go_at_call 95; first | (with_reducible refine (C12.out _).mono ?_; rintro r w1 ⟨rfl, k1, rfl⟩) | (with_reducible refine (C16.out _).mono ?_; rintro r w2 ⟨rfl, k2, rfl⟩))
      go_ret
      exact ⟨rfl, below_drewN (Below.refl _ _) _⟩
  · have h1 : ¬ (N : Int) < 1 := by omega
    have h2 : ¬ (4611686018427387904 : Int) < (N : Int) := by omega
    have CU := Lib.hid (fun v : World => (show Calls Tryz.prog 83 #[.string (s.extract 0 64), .int .i64 N, .int .i64 0] v _ from rUnpack_not (s.extract 0 64) N 0 hN2 (by omega) (by omega) (by omega) hR v))
    clear hR hN1 hN2 hxs
    go_enter Tryz.func82, Tryz.ntmps82
    go_wp2_with (first | (go_at_call 95; first | (with_reducible refine (C12.out _).mono ?_; rintro r w1 ⟨rfl, k1, rfl⟩) | (with_reducible refine (C16.out _).mono ?_; rintro r w2 ⟨rfl, k2, rfl⟩)) | (go_at_call 83; refine (CU.out _).mono ?_; rintro r w3 ⟨rfl, hb⟩; have HB := Lib.hid hb; clear hb))
    go_ret
    exact ⟨rfl, (below_drewN (Below.refl _ _) _).trans (HB.out.mono (Nat.le_refl _))⟩
  · have h1 : ¬ (R : Int) < 1 := by omega
    have h2 : ¬ (4611686018427387904 : Int) < (R : Int) := by omega
    have CU := Lib.hid (fun v : World => (show Calls Tryz.prog 83 #[.string (s.extract 0 64), .int .i64 R, .int .i64 0] v _ from rUnpack_rec (s.extract 0 64) R 0 title hN2 (by omega) hp v))
    rw [title_bs] at CU
    clear hp hN1 hN2 hxs
    go_enter Tryz.func82, Tryz.ntmps82
    go_wp2_with (first | (go_at_call 95; first | (with_reducible refine (C12.out _).mono ?_; rintro r w1 ⟨rfl, k1, rfl⟩) | (with_reducible refine (C16.out _).mono ?_; rintro r w2 ⟨rfl, k2, rfl⟩)) | (go_at_call 83; refine (CU.out _).mono ?_; rintro r w3 ⟨rfl, hb⟩; have HB := Lib.hid hb; clear hb))
    go_ret
    exact ⟨rfl, (below_drewN (Below.refl _ _) _).trans (HB.out.mono (Nat.le_refl _))⟩
  · have h1 : ¬ (N : Int) < 1 := by omega
    have h2 : ¬ (4611686018427387904 : Int) < (N : Int) := by omega
    have CU := Lib.hid (fun v : World => (show Calls Tryz.prog 83 #[.string (s.extract 0 64), .int .i64 N, .int .i64 0] v _ from rUnpack_rec (s.extract 0 64) N 0 p hN2 (by omega) hp v))
    obtain ⟨q, hq⟩ : ∃ q, q = bs p := ⟨_, rfl⟩
    have hne : (q.toList == [106, 111, 117, 114, 110, 97, 108]) = false := by
      rw [beq_eq_false_iff_ne, ByteArray.toList_eq, hq, bs_list]; exact ht
    rw [← hq] at CU
    clear hp hN1 hN2 hxs ht hq
    go_enter Tryz.func82, Tryz.ntmps82
    go_wp2_with (first | (go_at_call 95; first | (with_reducible refine (C12.out _).mono ?_; rintro r w1 ⟨rfl, k1, rfl⟩) | (with_reducible refine (C16.out _).mono ?_; rintro r w2 ⟨rfl, k2, rfl⟩)) | (go_at_call 83; refine (CU.out _).mono ?_; rintro r w3 ⟨rfl, hb⟩; have HB := Lib.hid hb; clear hb))
    go_ret
    exact ⟨rfl, (below_drewN (Below.refl _ _) _).trans (HB.out.mono (Nat.le_refl _))⟩
set_option maxRecDepth 100000 in
set_option maxHeartbeats 1000000 in
theorem repoch_high (s : ByteArray) (hs : 64 ≤ s.size) (b12 : UInt8) (hb12 : b12 = strAt s 12) (hlow : 128 ≤ b12.toNat) (w : World) :
    Calls Tryz.prog 82 #[.string s] w fun e w' => e = .returned (.int .i64 0) ∧ Below w.heap.size w w' := by
  have i12 := j_read_at s 12 (by omega) b12 hb12 12 (by omega)
  have h64 : ¬ (s.size : Int) < 64 := by omega
  have hl : (128 : Int) ≤ (b12.toNat : Int) := by omega
  clear hb12 hlow hs
  go_enter Tryz.func82, Tryz.ntmps82
  go_wp2_with fail
  go_ret
  exact ⟨rfl, Below.refl _ _⟩
theorem repoch_is (s : ByteArray) (R : Nat) (hs : 64 ≤ s.size) (hs2 : s.size ≤ 1000000) (h : EpochG (s.extract 0 64) R) (w : World) :
    Calls Tryz.prog 82 #[.string s] w fun e w' => e = .returned (.int .i64 R) ∧ Below w.heap.size w w' := by
  have hl : s.data.toList.length = s.size := size_toList s
  have hx : (s.extract 0 64).data.toList = s.data.toList.take 64 := by rw [extract_list, List.drop_zero]
  have hx12 : ((s.extract 0 64).data.toList.drop 12).take 8 = (s.data.toList.drop 12).take 8 := by
    rw [hx, List.drop_take, List.take_take]
    rfl
  unfold EpochG at h
  rw [hx12] at h
  obtain ⟨N, hN⟩ : ∃ N, N = Fr.num ((s.data.toList.drop 12).take 8) := ⟨_, rfl⟩
  have hN2 := num_eight s.data.toList (by omega)
  obtain ⟨A, hA⟩ : ∃ A, A = Fr.num ((s.data.toList.drop 12).take 4) := ⟨_, rfl⟩
  obtain ⟨B, hB⟩ : ∃ B, B = Fr.num ((s.data.toList.drop 16).take 4) := ⟨_, rfl⟩
  rw [← hA, ← hB, ← hN] at hN2
  rw [← hN] at h
  have hBl : B < 4294967296 := by
    have := Fr.num_lt ((s.data.toList.drop 16).take 4)
    rw [show ((s.data.toList.drop 16).take 4).length = 4 by rw [List.length_take, List.length_drop]; omega, ← hB] at this
    omega
  have hA4 : A = (strAt s 12).toNat * 16777216 + Fr.num [strAt s 13, strAt s 14, strAt s 15] := by
    rw [hA, four_at s 12 (by omega), Fr.num_cons, show (256 : Nat) ^ [strAt s (12 + 1), strAt s (12 + 2), strAt s (12 + 3)].length = 16777216 by simp]
  have hAr := Fr.num_lt [strAt s 13, strAt s 14, strAt s 15]
  rw [show [strAt s 13, strAt s 14, strAt s 15].length = 3 from rfl] at hAr
  have hRN : ∀ {R}, IsRec (s.extract 0 64) R 0 title → R ≤ 4611686018427387904 → R = N := fun hr hR => by
    have := hr.epoch (by omega)
    rw [hx12, ← hN] at this
    exact this.symm
  by_cases hhigh : 128 ≤ (strAt s 12).toNat
  · have hNb : 4611686018427387904 < N := by omega
    rcases h with ⟨rfl, _⟩ | ⟨hr, _, h2⟩
    · exact repoch_high s hs _ rfl hhigh w
    · have := hRN hr h2; omega
  · refine repoch_walk s R N A B hs hs2 _ rfl (by omega) hA hB (by omega) hBl hN2.symm ?_ w
    by_cases hz : N = 0 ∨ 4611686018427387904 < N
    · left
      refine ⟨hz, ?_⟩
      rcases h with ⟨rfl, _⟩ | ⟨hr, h1, h2⟩
      · rfl
      · have := hRN hr h2; omega
    · right
      refine ⟨by omega, by omega, ?_⟩
      rcases h with ⟨rfl, h⟩ | ⟨hr, h1, h2⟩
      · by_cases hp : ∃ p, IsRec (s.extract 0 64) N 0 p
        · obtain ⟨p, hp⟩ := hp
          refine Or.inr ⟨p, hp, Or.inr ⟨fun e => ?_, rfl⟩⟩
          rcases h with h | h | h
          · omega
          · omega
          · exact h (e ▸ hp)
        · exact Or.inl ⟨fun p h => hp ⟨p, h⟩, rfl⟩
      · have := hRN hr h2
        exact Or.inr ⟨title, this ▸ hr, Or.inl ⟨rfl, this⟩⟩
end
section
open Go.RowKit

/-- A Found: its epoch, its records, what is left, is it the second half. -/
def fndV (e : Int) (v : Value) (l : Int) (b : Bool) : List Value := [.int .i64 e, v, .int .i64 l, .bool b]
theorem fnd_ones (e l : Int) (q : Bool) (b : Option Addr) (n c : Nat) : ∀ v ∈ fndV e (.slice b n c) l q, v.oneCell' = true := by
  intro v hv
  simp only [fndV, List.mem_cons, List.not_mem_nil, or_false] at hv
  rcases hv with rfl | rfl | rfl | rfl <;> rfl
theorem allocFound (w : World) : (Instr.alloc 116 true (.tuple #[])).run Tryz.prog w = .ok (.pointer (some ⟨w.heap.size, 0, none⟩)) (w.alloc (.cells (fndV 0 (.slice none 0 0) 0 false).toArray 116)) := by kernel_rfl
/-- What Read has in its hands: its answer's cell, what it has found. -/
structure RdS (w0 : World) (r g : Nat) (E : Nat) (v : Value) (sec : Bool) (wr : World) : Prop where
  rr : wr.heap[r]? = some (.cells (fndV 0 (.slice none 0 0) 0 false).toArray 116 (0, 0))
  gg : wr.heap[g]? = some (.cells (fndV E v 0 sec).toArray 116 (0, 0))
  old : Below w0.heap.size w0 wr
  r0 : w0.heap.size ≤ r
  rg : r < g
section
variable {w0 : World} {r g E : Nat} {v : Value} {sec : Bool} {wr wr' : World}
theorem RdS.below (h : RdS w0 r g E v sec wr) (hb : Below (g + 1) wr wr') : RdS w0 r g E v sec wr' :=
  ⟨(hb.block r (by have := h.rg; omega)).trans h.rr, (hb.block g (by omega)).trans h.gg, h.old.trans (hb.mono (by have := h.r0; have := h.rg; omega)), h.r0, h.rg⟩
theorem RdS.lt (h : RdS w0 r g E v sec wr) : g < wr.heap.size := lt_of_heap h.gg
theorem RdS.set (h : RdS w0 r g E v sec wr) (j : Nat) (x : Value) (E' : Nat) (v' : Value) (sec' : Bool) (hx : (fndV E v 0 sec).set j x = fndV E' v' 0 sec') : RdS w0 r g E' v' sec' (wr.setCell ⟨g, j, none⟩ x) := by
  have hk : Kept wr.heap.size [g] wr (wr.setCell ⟨g, j, none⟩ x) := (Kept.refl _ _ _).setCell (p := ⟨g, j, none⟩) (by simp) _
  refine ⟨(hk.block r (lt_of_heap h.rr) (by have := h.rg; simp; omega)).trans h.rr, ?_, h.old.trans ((hk.mono h.old.size (fun _ _ hm => hm)).below (fun y hy => by simp at hy; have := h.r0; have := h.rg; omega)), h.r0, h.rg⟩
  have := set_list h.gg j x
  rw [hx] at this
  exact this
theorem RdS.cells (h : RdS w0 r g E v sec wr) : (wr.cell? ⟨g, 0, none⟩ = some (.int .i64 E) ∧ wr.cell? ⟨g, 1, none⟩ = some v ∧ wr.cell? ⟨g, 2, none⟩ = some (.int .i64 0) ∧ wr.cell? ⟨g, 3, none⟩ = some (.bool sec)) ∧ ∀ j, wr.frozen? ⟨g, j, none⟩ = false :=
  ⟨⟨cell_of_list h.gg 0, cell_of_list h.gg 1, cell_of_list h.gg 2, cell_of_list h.gg 3⟩, free_of_list h.gg⟩
end
set_option maxRecDepth 100000 in
set_option maxHeartbeats 1000000 in
theorem rRead_is (s : ByteArray) (m E0 E1 act E : Nat) (recs : List (List UInt8)) (hm : 2 ≤ m) (hm2 : m ≤ 4096) (hs : s.size = 128 * m) (h0 : EpochG (s.extract 0 64) E0) (h1 : EpochG (s.extract (64 * m) (64 * m + 64)) E1)
    (hact : act = (if E0 < E1 then 1 else 0)) (hE : E = (if E0 < E1 then E1 else E0)) (he1 : 1 ≤ E) (hch : Chain E 1 (((s.data.toList.drop (act * (64 * m))).take (64 * m)).drop 64) recs) (w : World) :
    Calls Tryz.prog 60 #[.string s] w fun e w' => ∃ v, e = .returned (.agg (fndV E v ((m - 1 - secsAll recs : Nat) : Int) (decide (act = 1))).toArray) ∧ w'.ownsRow w.heap.size 9 1 v recs.length (recs.map strv) ∧ Below w.heap.size w w' := by
  obtain ⟨H, hH⟩ : ∃ H, H = 64 * m := ⟨_, rfl⟩
  have hHs : (s.size : Int).tdiv 2 = (H : Int) := by rw [Int.tdiv_eq_ediv_of_nonneg (by omega)]; omega
  have hHs2 : (s.size : Int) / 2 = (H : Int) := by omega
  have hHle : H ≤ s.size := by omega
  have x0 : (s.extract 0 H).extract 0 64 = s.extract 0 64 := by
    have : ((s.extract 0 H).extract 0 64).data.toList = (s.extract 0 64).data.toList := by
      rw [extract_list, extract_list, extract_list, List.drop_zero, List.drop_zero, List.drop_zero, List.take_take, Nat.min_eq_left (by omega)]
    exact (bs_of this).trans (bs_of rfl).symm
  have x1 : (s.extract H s.size).extract 0 64 = s.extract (64 * m) (64 * m + 64) := by
    have : ((s.extract H s.size).extract 0 64).data.toList = (s.extract (64 * m) (64 * m + 64)).data.toList := by
      rw [extract_list, extract_list, extract_list, List.drop_zero, List.take_of_length_le (l := s.data.toList) (by rw [size_toList]; exact Nat.le_refl _), List.drop_take, hH, show 64 * m + 64 - 64 * m = 64 by omega]
    exact (bs_of this).trans (bs_of rfl).symm
  have CE0 := Lib.hid (fun v : World => repoch_is (s.extract 0 H) E0 (by rw [ByteArray.size_extract]; omega) (by rw [ByteArray.size_extract]; omega) (by rw [x0]; exact h0) v)
  have CE1 := Lib.hid (fun v : World => repoch_is (s.extract H s.size) E1 (by rw [ByteArray.size_extract]; omega) (by rw [ByteArray.size_extract]; omega) (by rw [x1]; exact h1) v)
  have HACT := Lib.hid hact
  have HE := Lib.hid hE
  have HCH := Lib.hid hch
  have HHH := Lib.hid hH
  have HEM : Hid (E ≤ 4611686018427387904) := Lib.hid (by have := h0.most; have := h1.most; rw [hE]; split <;> omega)
  have HSZ := Lib.hid hs
  have hHb : H ≤ 262144 := by omega
  have hHc : 128 ≤ H := by omega
  have hsb : s.size ≤ 524288 := by omega
  clear x0 x1 h0 h1 hact hE hch hH hs
  obtain ⟨i0, hi, hz0, hz1, hz2⟩ := info_parts infoString
  obtain ⟨hh, hhh⟩ : ∃ hh, hh = (if E0 < E1 then s.extract H s.size else s.extract 0 H) := ⟨_, rfl⟩
  have HHD := Lib.hid hhh
  have hsz := HSZ.out
  have hhm := HHH.out
  have hhl : hh.data.toList = (s.data.toList.drop (act * (64 * m))).take (64 * m) := by
    rw [hhh, HACT.out, ← HHH.out]
    by_cases hc : E0 < E1
    · rw [if_pos hc, if_pos hc, extract_list, Nat.one_mul, List.take_of_length_le (l := s.data.toList) (by rw [size_toList]; exact Nat.le_refl _), List.take_of_length_le (by rw [List.length_drop, size_toList]; omega)]
    · rw [if_neg hc, if_neg hc, extract_list, Nat.zero_mul, List.drop_zero, List.drop_zero]
  have hhs : hh.size = H := by
    rw [hhh]
    by_cases hc : E0 < E1
    · rw [if_pos hc, ByteArray.size_extract]; omega
    · rw [if_neg hc, ByteArray.size_extract]; omega
  have HC2 : Hid (Chain E 1 (hh.data.toList.drop 64) recs) := Lib.hid (by rw [hhl]; exact HCH.out)
  have HHS := Lib.hid hhs
  have hE62 : E ≤ 4611686018427387904 := HEM.out
  clear hhh hhl hhs hsz hhm
  go_enter Tryz.func60, Tryz.ntmps60
  go_upto_if 30 with (first | (refine wpList_alloc rfl 116 rfl _ allocFound ?_; go_frame) | (go_at_call 82; first | (with_reducible refine (CE0.out _).mono ?_; rintro r w1 ⟨rfl, hb1⟩; have HB1 := Lib.hid hb1; clear hb1) | (with_reducible refine (CE1.out _).mono ?_; rintro r w2 ⟨rfl, hb2⟩; have HB2 := Lib.hid hb2; clear hb2)) | (refine wpList_store_whole rfl 116 _ _ rfl w2.heap.size (fndV E0 (.slice none 0 0) 0 false) (fndV 0 (.slice none 0 0) 0 false) 116 rfl rfl (heap_alloc_new _ _) rfl (by kernel_rfl) (fnd_ones _ _ _ _ _ _) ?_; intro w3 h3 k3 s3; go_frame) | fail)
  obtain ⟨r, hr⟩ : ∃ r, r = w.heap.size := ⟨_, rfl⟩
  obtain ⟨g, hg⟩ : ∃ g, g = w2.heap.size := ⟨_, rfl⟩
  have hS : RdS w r g E0 (.slice none 0 0) false w3 := by
    have za : (w.alloc (.cells (fndV 0 (.slice none 0 0) 0 false).toArray 116)).heap.size = w.heap.size + 1 := by simp
    have z1 := HB1.out.size
    have z2 := HB2.out.size
    have ba : Below w.heap.size w (w.alloc (.cells (fndV 0 (.slice none 0 0) 0 false).toArray 116)) := (Below.refl _ _).alloc (Nat.le_refl _) _
    have bb : Below w2.heap.size w2 (w2.alloc (.cells (fndV 0 (.slice none 0 0) 0 false).toArray 116)) := (Below.refl _ _).alloc (Nat.le_refl _) _
    have b02 : Below w.heap.size w w2 := ba.trans ((HB1.out.trans (HB2.out.mono z1)).mono (by omega))
    have bk : Below w2.heap.size (w2.alloc (.cells (fndV 0 (.slice none 0 0) 0 false).toArray 116)) w3 := (k3.out.mono (by simp) (fun _ _ hm => hm)).below (fun y hy => by simp at hy; omega)
    have b23 : Below w2.heap.size w2 w3 := bb.trans bk
    refine ⟨?_, by rw [hg]; exact h3.out, b02.trans (b23.mono (by omega)), by omega, by omega⟩
    rw [hr, b23.block _ (by omega), HB2.out.block _ (by omega), HB1.out.block _ (by omega)]
    exact heap_alloc_new _ _
  have HS := Lib.hid hS
  rw [← hr, ← hg]
  clear hS h3 k3 s3 hg HB1 HB2
  have HRW := Lib.hid hr
  clear hr
  go_cut [7] from 30 to 36 (fun s7 wx => s7 = .string hh ∧ RdS w r g E (.slice none 0 0) (decide (act = 1)) wx)
  case first =>
    by_cases hc : E0 < E1
    · have hf3 := HS.out.cells.2 3
      have hf0 := HS.out.cells.2 0
      obtain ⟨⟨c0, c1, c2, c3⟩, _⟩ := HS.out.cells
      have hS2 := HS.out.set 0 (.int .i64 E1) E1 (.slice none 0 0) false rfl
      obtain ⟨⟨d0, d1, d2, d3⟩, df⟩ := hS2.cells
      have df3 := df 3
      have hS3 := hS2.set 3 (.bool true) E1 (.slice none 0 0) true rfl
      have HS3 := Lib.hid hS3
      have hci : (E0 : Int) < (E1 : Int) := by omega
      clear hS2 hS3 df
      go_wp2
      go_meet
      have e1 : E = E1 := by rw [HE.out, if_pos hc]
      have e2 : act = 1 := by rw [HACT.out, if_pos hc]
      have e3 : hh = s.extract H s.size := by rw [HHD.out, if_pos hc]
      refine ⟨by rw [e3], ?_⟩
      rw [e1, e2]
      exact HS3.out
    · have hci : ¬ (E0 : Int) < (E1 : Int) := by omega
      go_wp2
      go_meet
      have e1 : E = E0 := by rw [HE.out, if_neg hc]
      have e2 : act = 0 := by rw [HACT.out, if_neg hc]
      have e3 : hh = s.extract 0 H := by rw [HHD.out, if_neg hc]
      refine ⟨by rw [e3], ?_⟩
      rw [e1, e2]
      exact HS.out
  case rest =>
    obtain ⟨hs7, hS4⟩ := hcut
    have HS4 := Lib.hid hS4
    obtain ⟨⟨c0, c1, c2, c3⟩, _⟩ := hS4.cells
    have hEn : ((E : Int) == 0) = false := by rw [beq_eq_false_iff_ne]; omega
    clear hS4 HS
    subst hs7
    go_wp2_with fail
    go_loopw [8] (fun av wr => ∃ (k : Nat) (v : Value), k ≤ recs.length ∧ av = .int .i64 (64 + 64 * secsAll (recs.take k) : Nat) ∧ RdS w r g E v (decide (act = 1)) wr ∧ wr.ownsRow (g + 1) 9 1 v k ((recs.take k).map strv)) (fun av _ => H + 1 - (intOf av).toNat)
    case atStart => exact ⟨0, .slice none 0 0, by omega, by simp [secsAll], HS4.out, by simpa using World.ownsRow_nil _ _ _ _⟩
    case round =>
      clear HS4 c0 c1 c2 c3
      obtain ⟨k, v, hk, rfl, hS5, hown⟩ := hrel
      obtain ⟨b0, cap0, rfl⟩ := own_slice hown
      have hchl := HC2.out.len
      rw [List.length_drop, size_toList, HHS.out] at hchl
      have hM := secsAll_take (ps := recs) k
      obtain ⟨M, hMe⟩ : ∃ M, M = secsAll (recs.take k) := ⟨_, rfl⟩
      rw [← hMe] at hM
      rw [← hMe]
      obtain ⟨A, hA⟩ : ∃ A, A = 64 + 64 * M := ⟨_, rfl⟩
      rw [← hA]
      have hAs : A ≤ hh.size := by rw [HHS.out]; omega
      obtain ⟨q, hq⟩ : ∃ q, q = hh.extract A hh.size := ⟨_, rfl⟩
      have hmid : ∀ v : World, (Instr.slice 9 (.string hh) (some (.int .i64 (A : Int))) none none).run Tryz.prog v = .ok (.string q) v := run_fromN hAs hq.symm
      have hql : q.data.toList = (hh.data.toList.drop 64).drop (64 * secsAll (recs.take k)) := by rw [hq, extract_from, List.drop_drop, hA, hMe]
      have hqb : q = bs ((hh.data.toList.drop 64).drop (64 * secsAll (recs.take k))) := bs_of hql
      have hck := HC2.out.at k hk
      have hqs : q.size ≤ 1000000 := by have := HHS.out; rw [hq, ByteArray.size_extract]; omega
      have hll := length_le_secsAll recs
      have ek : IntKind.i64.wrap ((k : Int) + 1) = ((k + 1 : Nat) : Int) := by rw [IntWalk.i64_in _ (by omega)]; omega
      have EK := Lib.hid ek
      obtain ⟨⟨c0, c1, c2, c3⟩, cf⟩ := hS5.cells
      have C0 : wr.cell? ⟨g, 0, none⟩ = some (.int .i64 E) ∧ wr.cell? ⟨g, 1, none⟩ = some (.slice b0 k cap0) := ⟨c0, c1⟩
      by_cases hlt : k < recs.length
      · obtain ⟨x, hx⟩ : ∃ x, x = recs.getD k [] := ⟨_, rfl⟩
        have hrec : IsRec q E (k + 1) x := by
          have := hck.head (by rw [List.length_drop]; omega)
          rw [← hqb, Nat.add_comm 1 k] at this
          rw [hx]
          rw [show (recs.drop k).getD 0 [] = recs.getD k [] by simp [List.getD]] at this
          exact this
        have CU := Lib.hid (fun (v : World) => rUnpack_rec q E (k + 1) x hE62 (by omega) hrec v)
        obtain ⟨W, hW⟩ : ∃ W, W = Fr.whole x.length := ⟨_, rfl⟩
        rw [← hW] at CU
        have hsu := secsAll_take_succ hlt
        rw [← hx, ← hMe] at hsu
        have hle := secsAll_take (ps := recs) (k + 1)
        have htk : (recs.take (k + 1)).map strv = (recs.take k).map strv ++ [.string (bs x)] := by
          rw [List.take_succ_eq_append_getElem hlt, List.map_append, hx, List.getD, List.getElem?_eq_getElem hlt]; rfl
        have hW2 : W = 64 * secs x := by rw [hW, whole_secs]
        have hAm : A + W ≤ 1000000 := by rw [hsu] at hle; omega
        have hW1 : 1 ≤ W := by have := secs_pos x; omega
        have hnext : A + W = 64 + 64 * secsAll (recs.take (k + 1)) := by rw [hsu]; omega
        have hAH : A ≤ H := by have := HHS.out; omega
        have HNX := Lib.hid hnext
        have HTK := Lib.hid htk
        have HO := Lib.hid hown
        have HS5 := Lib.hid hS5
        have HA := Lib.hid hA
        clear hown hS5 hq hql hqb hck hrec hsu htk hx hW hW2 ek hA hMe hM hle hnext cf hAs
        go_wp2_with fail
        go_region_held3 (fun u => u.cell? ⟨g, 0, none⟩ = some (.int .i64 E) ∧ u.cell? ⟨g, 1, none⟩ = some (.slice b0 k cap0)) (first | exact C0 | exact C1) (first | (go_at_call 83; rw [EK.out]; refine (CU.out _).mono ?_; rintro z w5 ⟨rfl, hb⟩; have hS6 := HS5.out.below ((Below.refl (g + 1) wr).drew.trans (hb.mono (show g + 1 ≤ wr.heap.size from HS5.out.lt))); have HS6 := Lib.hid hS6; have C1 : w5.cell? ⟨g, 0, none⟩ = some (.int .i64 E) ∧ w5.cell? ⟨g, 1, none⟩ = some (.slice b0 k cap0) := ⟨hS6.cells.1.1, hS6.cells.1.2.1⟩; have HO6 := Lib.hid (own_below (own_below HO.out (Below.refl wr.heap.size wr).drew) hb); clear hb hS6) | fail)
        have h5lt := HS6.out.lt
        clear C0 C1 HS5 HO CU c0 c1 c2 c3 hmid
        obtain ⟨⟨c0, c1, c2, c3⟩, cf⟩ := HS6.out.cells
        have cf1 := cf 1
        clear cf
        go_wp2_with (first | (refine wpList_append_own _ rfl (.tmp 64) (.tmp 66) 31 rfl (g + 1) 9 i0 (.string ⟨#[]⟩) 1 16 Tryz.underlying31 hi hz0 hz1 hz2 rfl (by decide) _ k _ rfl (HO6.out.alloc _) ⟨w5.heap.size, 0, none⟩ 1 1 [.string (bs x)] rfl rfl (news_row (heap_alloc_new _ _)) (by intro u hu; simp only [List.mem_singleton] at hu; rw [hu]; rfl) (by unfold maxLen; omega) (by omega) (by simp; omega) ?_; intro v7 w7 h7 hg7 _; obtain ⟨b7, cap7, hv7⟩ := own_slice h7; subst hv7; have H7 := Lib.hid h7; have HS7 := Lib.hid (HS6.out.below (((Below.refl (g + 1) w5).alloc (by omega) _).grown hg7 (by simp; omega) (fun k hk => (HO6.out.lt k hk).1))); obtain ⟨⟨d0, d1, d2, d3⟩, df⟩ := HS7.out.cells; have df1 := df 1; clear h7 hg7 df; go_frame) | fail)
        go_roundw
        case rel =>
          refine ⟨k + 1, .slice b7 (k + 1) cap7, by omega, ?_, HS7.out.set 1 _ E _ _ rfl, ?_⟩
          · rw [← HNX.out]; congr 1
          · rw [HTK.out]; exact ownsRow_setCell_below H7.out (by show g < g + 1; omega) _
        case measure => simp [intOf]; omega
      · have hkl : k = recs.length := by omega
        have hnr : NotRec q E (k + 1) := by
          rw [hkl, List.drop_length, ← hkl] at hck
          have := hck.none
          rw [← hqb, Nat.add_comm 1 k] at this
          exact this
        have hqsz : q.size = H - A := by rw [hq, ByteArray.size_extract, HHS.out]; omega
        have hmm := HHH.out
        have CU := Lib.hid (fun (v : World) => rUnpack_not q E (k + 1) hE62 (by omega) (by omega) (by omega) hnr v)
        have hMa : M = secsAll recs := by rw [hMe, hkl, List.take_length]
        have hleft : ((H : Int) - (A : Int)) / 64 = ((m - 1 - secsAll recs : Nat) : Int) := by rw [← hMa]; omega
        have hleft2 : ((H : Int) - (A : Int)).tdiv 64 = ((m - 1 - secsAll recs : Nat) : Int) := by rw [Int.tdiv_eq_ediv_of_nonneg (by omega)]; exact hleft
        have hAH : A ≤ H := by omega
        have HO := Lib.hid hown
        have HS5 := Lib.hid hS5
        have HKL := Lib.hid hkl
        clear hown hS5 hq hql hqb hck hnr hqsz hmm hMa hA hMe hM ek hkl cf hAs
        go_wp2_with fail
        go_region_held3 (fun u => u.cell? ⟨g, 0, none⟩ = some (.int .i64 E) ∧ u.cell? ⟨g, 1, none⟩ = some (.slice b0 k cap0)) (first | exact C0 | exact C1) (first | (go_at_call 83; rw [EK.out]; refine (CU.out _).mono ?_; rintro z w5 ⟨rfl, hb⟩; have hS6 := HS5.out.below ((Below.refl (g + 1) wr).drew.trans (hb.mono (show g + 1 ≤ wr.heap.size from HS5.out.lt))); have HS6 := Lib.hid hS6; have C1 : w5.cell? ⟨g, 0, none⟩ = some (.int .i64 E) ∧ w5.cell? ⟨g, 1, none⟩ = some (.slice b0 k cap0) := ⟨hS6.cells.1.1, hS6.cells.1.2.1⟩; have HO6 := Lib.hid (own_below (own_below HO.out (Below.refl wr.heap.size wr).drew) hb); clear hb hS6) | fail)
        clear C0 C1 HS5 HO CU c0 c1 c2 c3 hmid
        obtain ⟨⟨c0, c1, c2, c3⟩, cf⟩ := HS6.out.cells
        have cf2 := cf 2
        clear cf
        obtain ⟨Lf, hLf⟩ : ∃ Lf, Lf = (m - 1 - secsAll recs : Nat) := ⟨_, rfl⟩
        rw [← hLf] at hleft hleft2
        have hgA := set_list HS6.out.gg 2 (.int .i64 (Lf : Int))
        have hkA : Kept w5.heap.size [g] w5 (w5.setCell ⟨g, 2, none⟩ (.int .i64 (Lf : Int))) := (Kept.refl _ _ _).setCell (p := ⟨g, 2, none⟩) (by simp) _
        have hrA := (hkA.block r (lt_of_heap HS6.out.rr) (by have := HS6.out.rg; simp; omega)).trans HS6.out.rr
        have a0 : (w5.setCell ⟨g, 2, none⟩ (.int .i64 (Lf : Int))).cell? ⟨g, 0, none⟩ = some (.int .i64 E) := cell_of_list hgA 0
        have a1 : (w5.setCell ⟨g, 2, none⟩ (.int .i64 (Lf : Int))).cell? ⟨g, 1, none⟩ = some (.slice b0 k cap0) := cell_of_list hgA 1
        have a2 : (w5.setCell ⟨g, 2, none⟩ (.int .i64 (Lf : Int))).cell? ⟨g, 2, none⟩ = some (.int .i64 (Lf : Int)) := cell_of_list hgA 2
        have a3 : (w5.setCell ⟨g, 2, none⟩ (.int .i64 (Lf : Int))).cell? ⟨g, 3, none⟩ = some (.bool (decide (act = 1))) := cell_of_list hgA 3
        have r0 : (w5.setCell ⟨g, 2, none⟩ (.int .i64 (Lf : Int))).cell? ⟨r, 0, none⟩ = some (.int .i64 0) := cell_of_list hrA 0
        have r1 : (w5.setCell ⟨g, 2, none⟩ (.int .i64 (Lf : Int))).cell? ⟨r, 1, none⟩ = some (.slice none 0 0) := cell_of_list hrA 1
        have r2 : (w5.setCell ⟨g, 2, none⟩ (.int .i64 (Lf : Int))).cell? ⟨r, 2, none⟩ = some (.int .i64 0) := cell_of_list hrA 2
        have r3 : (w5.setCell ⟨g, 2, none⟩ (.int .i64 (Lf : Int))).cell? ⟨r, 3, none⟩ = some (.bool false) := cell_of_list hrA 3
        have rf := free_of_list hrA
        have HRA := Lib.hid hrA
        have HKA := Lib.hid hkA
        have HLF := Lib.hid hLf
        clear hgA hrA hkA hLf
        go_wp2
        have hset := set_list (set_list (set_list (set_list HRA.out 0 (.int .i64 E)) 1 (.slice b0 k cap0)) 2 (.int .i64 (Lf : Int))) 3 (.bool (decide (act = 1)))
        have hrl : w.heap.size ≤ r := HS6.out.r0
        have hgl : r < g := HS6.out.rg
        refine bodyPost_ret (results_mid Tryz.results60 _ _ r 0 _ _ rfl (range_of_list hset) Tryz.underlying116 rfl (by kernel_rfl)) rfl ⟨.slice b0 k cap0, by rw [← HLF.out]; rfl, ?_, ?_⟩
        · have := own_low (ownsRow_setCell_below (ownsRow_setCell_below (ownsRow_setCell_below (ownsRow_setCell_below (ownsRow_setCell_below HO6.out (a := ⟨g, 2, none⟩) (by show g < g + 1; omega) (.int .i64 (Lf : Int))) (a := ⟨r, 0, none⟩) (by show r < g + 1; omega) (.int .i64 E)) (a := ⟨r, 1, none⟩) (by show r < g + 1; omega) (.slice b0 k cap0)) (a := ⟨r, 2, none⟩) (by show r < g + 1; omega) (.int .i64 (Lf : Int))) (a := ⟨r, 3, none⟩) (by show r < g + 1; omega) (.bool (decide (act = 1)))) (show w.heap.size ≤ g + 1 by omega)
          rw [HKL.out, List.take_length] at this
          rw [HKL.out]
          exact this
        · exact ((((HS6.out.old.setCell (p := ⟨g, 2, none⟩) (by show w.heap.size ≤ g; omega) _).setCell (p := ⟨r, 0, none⟩) hrl _).setCell (p := ⟨r, 1, none⟩) hrl _).setCell (p := ⟨r, 2, none⟩) hrl _).setCell (p := ⟨r, 3, none⟩) hrl _
set_option maxRecDepth 100000 in
set_option maxHeartbeats 1000000 in
theorem rRead_blank (s : ByteArray) (m : Nat) (hm : 2 ≤ m) (hm2 : m ≤ 4096) (hs : s.size = 128 * m) (h0 : EpochG (s.extract 0 64) 0) (h1 : EpochG (s.extract (64 * m) (64 * m + 64)) 0) (w : World) :
    Calls Tryz.prog 60 #[.string s] w fun e w' => e = .returned (.agg (fndV 0 (.slice none 0 0) 0 false).toArray) ∧ Below w.heap.size w w' := by
  obtain ⟨H, hH⟩ : ∃ H, H = 64 * m := ⟨_, rfl⟩
  have hHs : (s.size : Int).tdiv 2 = (H : Int) := by rw [Int.tdiv_eq_ediv_of_nonneg (by omega)]; omega
  have hHs2 : (s.size : Int) / 2 = (H : Int) := by omega
  have hHle : H ≤ s.size := by omega
  have x0 : (s.extract 0 H).extract 0 64 = s.extract 0 64 := by
    have : ((s.extract 0 H).extract 0 64).data.toList = (s.extract 0 64).data.toList := by
      rw [extract_list, extract_list, extract_list, List.drop_zero, List.drop_zero, List.drop_zero, List.take_take, Nat.min_eq_left (by omega)]
    exact (bs_of this).trans (bs_of rfl).symm
  have x1 : (s.extract H s.size).extract 0 64 = s.extract (64 * m) (64 * m + 64) := by
    have : ((s.extract H s.size).extract 0 64).data.toList = (s.extract (64 * m) (64 * m + 64)).data.toList := by
      rw [extract_list, extract_list, extract_list, List.drop_zero, List.take_of_length_le (l := s.data.toList) (by rw [size_toList]; exact Nat.le_refl _), List.drop_take, hH, show 64 * m + 64 - 64 * m = 64 by omega]
    exact (bs_of this).trans (bs_of rfl).symm
  have CE0 := Lib.hid (fun v : World => (show Calls Tryz.prog 82 #[.string (s.extract 0 H)] v (fun e w' => e = .returned (.int .i64 0) ∧ Below v.heap.size v w') from repoch_is (s.extract 0 H) 0 (by rw [ByteArray.size_extract]; omega) (by rw [ByteArray.size_extract]; omega) (by rw [x0]; exact h0) v))
  have CE1 := Lib.hid (fun v : World => (show Calls Tryz.prog 82 #[.string (s.extract H s.size)] v (fun e w' => e = .returned (.int .i64 0) ∧ Below v.heap.size v w') from repoch_is (s.extract H s.size) 0 (by rw [ByteArray.size_extract]; omega) (by rw [ByteArray.size_extract]; omega) (by rw [x1]; exact h1) v))
  have hHb : H ≤ 262144 := by omega
  have hsb : s.size ≤ 524288 := by omega
  clear x0 x1 h0 h1 hH hs
  go_enter Tryz.func60, Tryz.ntmps60
  go_upto_if 30 with (first | (refine wpList_alloc rfl 116 rfl _ allocFound ?_; go_frame) | (go_at_call 82; first | (with_reducible refine (CE0.out _).mono ?_; rintro r w1 ⟨rfl, hb1⟩; have HB1 := Lib.hid hb1; clear hb1) | (with_reducible refine (CE1.out _).mono ?_; rintro r w2 ⟨rfl, hb2⟩; have HB2 := Lib.hid hb2; clear hb2)) | (refine wpList_store_whole rfl 116 _ _ rfl w2.heap.size (fndV 0 (.slice none 0 0) 0 false) (fndV 0 (.slice none 0 0) 0 false) 116 rfl rfl (heap_alloc_new _ _) rfl (by kernel_rfl) (fnd_ones _ _ _ _ _ _) ?_; intro w3 h3 k3 s3; go_frame) | fail)
  obtain ⟨r, hr⟩ : ∃ r, r = w.heap.size := ⟨_, rfl⟩
  obtain ⟨g, hg⟩ : ∃ g, g = w2.heap.size := ⟨_, rfl⟩
  have hS : RdS w r g 0 (.slice none 0 0) false w3 := by
    have za : (w.alloc (.cells (fndV 0 (.slice none 0 0) 0 false).toArray 116)).heap.size = w.heap.size + 1 := by simp
    have z1 := HB1.out.size
    have z2 := HB2.out.size
    have ba : Below w.heap.size w (w.alloc (.cells (fndV 0 (.slice none 0 0) 0 false).toArray 116)) := (Below.refl _ _).alloc (Nat.le_refl _) _
    have bb : Below w2.heap.size w2 (w2.alloc (.cells (fndV 0 (.slice none 0 0) 0 false).toArray 116)) := (Below.refl _ _).alloc (Nat.le_refl _) _
    have b02 : Below w.heap.size w w2 := ba.trans ((HB1.out.trans (HB2.out.mono z1)).mono (by omega))
    have bk : Below w2.heap.size (w2.alloc (.cells (fndV 0 (.slice none 0 0) 0 false).toArray 116)) w3 := (k3.out.mono (by simp) (fun _ _ hm => hm)).below (fun y hy => by simp at hy; omega)
    have b23 : Below w2.heap.size w2 w3 := bb.trans bk
    refine ⟨?_, by rw [hg]; exact h3.out, b02.trans (b23.mono (by omega)), by omega, by omega⟩
    rw [hr, b23.block _ (by omega), HB2.out.block _ (by omega), HB1.out.block _ (by omega)]
    exact heap_alloc_new _ _
  have HS := Lib.hid hS
  rw [← hr, ← hg]
  clear hS h3 k3 s3 hg HB1 HB2
  have HRW := Lib.hid hr
  clear hr
  obtain ⟨⟨c0, c1, c2, c3⟩, _⟩ := HS.out.cells
  have hrA := HS.out.rr
  have r0 : w3.cell? ⟨r, 0, none⟩ = some (.int .i64 0) := cell_of_list hrA 0
  have r1 : w3.cell? ⟨r, 1, none⟩ = some (.slice none 0 0) := cell_of_list hrA 1
  have r2 : w3.cell? ⟨r, 2, none⟩ = some (.int .i64 0) := cell_of_list hrA 2
  have r3 : w3.cell? ⟨r, 3, none⟩ = some (.bool false) := cell_of_list hrA 3
  have rf := free_of_list hrA
  have HRA := Lib.hid hrA
  clear hrA
  go_wp2
  have hset := set_list (set_list (set_list (set_list HRA.out 0 (.int .i64 0)) 1 (.slice none 0 0)) 2 (.int .i64 0)) 3 (.bool false)
  have hrl : w.heap.size ≤ r := HS.out.r0
  refine bodyPost_ret (results_mid Tryz.results60 _ _ r 0 _ _ rfl (range_of_list hset) Tryz.underlying116 rfl (by kernel_rfl)) rfl ⟨rfl, ?_⟩
  exact (((HS.out.old.setCell (p := ⟨r, 0, none⟩) hrl _).setCell (p := ⟨r, 1, none⟩) hrl _).setCell (p := ⟨r, 2, none⟩) hrl _).setCell (p := ⟨r, 3, none⟩) hrl _
end
end Go.Proofs.YtbljhodnpddpiaaGreatDoor
