/- The walk of ErasureOne. -/
import Derived.Test.YteanbflbclmeeaaE3
namespace Go.Proofs.Yteanbflbclmeeaa
open Go.RowKit

theorem add_wrap {a b N : Nat} (hN : a + b = N) (hmax : N ≤ 1000000) : wrap64 ((a : Int) + (b : Int)) = (N : Int) := by
  have : (a : Int) + (b : Int) = (N : Int) := by omega
  rw [this]; unfold wrap64; omega

/-- A text of which one byte is another one. -/
def otherT (x : ByteArray) (a : Nat) (y : UInt8) : ByteArray := ⟨(x.data.toList.set a (xr (strAt x a) y)).toArray⟩
theorem otherT_size (x : ByteArray) (a : Nat) (y : UInt8) : (otherT x a y).size = x.size := by
  rw [← size_toList]; unfold otherT; simp
theorem otherT_at (x : ByteArray) (a j : Nat) (y : UInt8) (hj : j < x.size) : strAt (otherT x a y) j = if j = a then strAt x j ^^^ y else strAt x j := by
  rw [strAt_eq, strAt_eq]
  unfold otherT
  simp only []
  by_cases h : j = a
  · subst h
    rw [if_pos rfl, List.getD, List.getElem?_set_self (by rw [size_toList]; exact hj), xr_eq, strAt_eq]; rfl
  · rw [if_neg h, List.getD, List.getD, List.getElem?_set_ne (fun e => h e.symm)]
/-- One byte of one shard is another one, and that is found. -/
theorem found {k m n s q a : Nat} {X : Mat} {y : UInt8} (hm1 : 1 ≤ m) (hn : k + m = n) (hkm : n ≤ 255) (hq : q < n) (ha : a < s) (hy : y ≠ 0) : chkB k m s (fun j => if j = q then otherT (shT k s X q) a y else shT k s X j) = false := by
  rw [chkB_eq]
  refine decide_eq_false fun h => ?_
  have hne : ∀ z : UInt8, z ^^^ y ≠ z := fun z e => hy (by
    have := congrArg (fun x => z ^^^ x) e
    simpa [xor_same, ← UInt8.xor_assoc] using this)
  by_cases hqk : q < k
  · have h0 := h 0 hm1
    rw [Nat.add_zero, if_neg (by omega), parT_eq, shT_hi X (Nat.le_refl k), Nat.sub_self] at h0
    have h1 := txt_inj h0 ha
    refine one_other (a := a) (by omega) hqk X y hy ?_
    rw [← h1]
    refine mm_congr (fun _ _ => rfl) (fun l hl => ?_)
    show (if l = q ∧ a = a then X l a ^^^ y else X l a) = strAt (if l = q then otherT (shT k s X q) a y else shT k s X l) a
    by_cases hlq : l = q
    · subst hlq
      rw [if_pos ⟨rfl, rfl⟩, if_pos rfl, otherT_at _ _ _ _ (by rw [shT_size]; exact ha), if_pos rfl, shT_at _ _ ha, encM_lo X a hl]
    · rw [if_neg (fun e => hlq e.1), if_neg hlq, shT_at _ _ ha, encM_lo X a hl]
  · have h0 := h (q - k) (by omega)
    rw [show k + (q - k) = q by omega, if_pos rfl, parT_eq] at h0
    have h1 := congrArg (fun x => strAt x a) h0
    simp only [txt_at _ _ _ ha] at h1
    rw [otherT_at _ _ _ _ (by rw [shT_size]; exact ha), if_pos rfl, shT_at _ _ ha, encM_hi X a (by omega)] at h1
    refine hne _ (h1.symm.trans (mm_congr (fun _ _ => rfl) (fun l hl => ?_)))
    show strAt (if l = q then otherT (shT k s X q) a y else shT k s X l) a = X l a
    rw [if_neg (by omega), shT_at _ _ ha, encM_lo X a hl]
theorem range_setE {w : World} {g j : Nat} {xs : List Value} {v : Value} (h : ∀ k u, xs[k]? = some u → w.cell? ⟨g, k, none⟩ = some u) : (w.setCell ⟨g, j, none⟩ v).rangeAt g 0 (xs.set j v) := by
  intro k u hu
  rw [Nat.zero_add]
  by_cases hk : k = j
  · subst hk
    have hl : k < xs.length := by have := (List.getElem?_eq_some_iff.1 hu).1; rw [List.length_set] at this; exact this
    rw [List.getElem?_set_self hl] at hu
    rw [← Option.some.inj hu]
    exact World.cell?_setCell_same (u := xs[k]) _ _ _ (h k _ (List.getElem?_eq_getElem hl))
  · rw [List.getElem?_set_ne (fun e => hk e.symm)] at hu
    rw [World.cell?_setCell_other _ _ _ _ (fun e => hk (by injection e with _ e2 _; exact e2.symm))]
    exact h k u hu
attribute [local go_sem high] g_xor
set_option maxRecDepth 20000 in
set_option maxHeartbeats 2000000 in
theorem One_walk (k0 m0 w0 a0 : Int) (x : ByteArray) (y : UInt8) (hk0 : -9223372036854775808 ≤ k0 ∧ k0 ≤ 9223372036854775807) (hm0 : -9223372036854775808 ≤ m0 ∧ m0 ≤ 9223372036854775807) (hw0 : -9223372036854775808 ≤ w0 ∧ w0 ≤ 9223372036854775807) (ha0 : -9223372036854775808 ≤ a0 ∧ a0 ≤ 9223372036854775807) (hx : x.size ≤ 140737488355328) (w : World) :
    Calls Try.prog 6 #[.int .i64 k0, .int .i64 m0, .string x, .int .i64 w0, .int .i64 a0, .int .u8 y.toNat] w fun e w' => e = .returned (.bool true) ∧ Below w.heap.size w w' := by
  obtain ⟨k, hk⟩ : ∃ k, k = 1 + pk k0 10 := ⟨_, rfl⟩
  have hk12 : 1 ≤ k ∧ k ≤ 10 := by have := pk_lt k0 10 (by decide); omega
  have hsum : (1 : Int) + (pk k0 10 : Int) = (k : Int) := by omega
  obtain ⟨m, hm⟩ : ∃ m, m = 1 + pk m0 6 := ⟨_, rfl⟩
  have hm12 : 1 ≤ m ∧ m ≤ 6 := by have := pk_lt m0 6 (by decide); omega
  have hsum2 : (1 : Int) + (pk m0 6 : Int) = (m : Int) := by omega
  obtain ⟨n, hn⟩ : ∃ n, k + m = n := ⟨_, rfl⟩
  have hn16 : n ≤ 16 := by omega
  obtain ⟨t, ht⟩ : ∃ t, t = x.extract 0 (min (x.size : Int) 500).toNat := ⟨_, rfl⟩
  have hts : t.size ≤ 500 := by rw [ht, ByteArray.size_extract]; omega
  obtain ⟨s, hs⟩ : ∃ s, szN k t.size = s := ⟨_, rfl⟩
  obtain ⟨N, hN⟩ : ∃ N, k * s = N := ⟨_, rfl⟩
  have hNm : N ≤ 600 := by
    have := szN_small hk12.1 t.size
    rw [hs, hN] at this; omega
  have HSP : Hid (t.size ≠ 0 → 1 ≤ s) := Lib.hid (fun h => by rw [← hs]; exact szN_pos hk12.1 (by omega))
  have hss : s ≤ 500 := by have := szN_le hk12.1 t.size; omega
  have HN := Lib.hid hn
  have HS := Lib.hid hs
  have HNN := Lib.hid hN
  have HT := Lib.hid ht
  have hsum3 : (k : Int) + (m : Int) = (n : Int) := by omega
  have hnb := nat_eq_B (i := n) (p := n) rfl
  clear hk hm hn hs hN ht
  go_enter Try.func6, Try.ntmps6
  go_wp2_with fail
  refine (eknown_any _).mono ?_
  rintro e w1 ⟨rfl, hb1⟩
  have B1 := Lib.hid hb1
  clear hb1
  go_wp2_with fail
  refine (pick_any k0 10 (by decide) hk0 _).mono ?_
  rintro e w' ⟨rfl, rfl⟩
  go_wp2_with fail
  refine (pick_any m0 6 (by decide) hm0 _).mono ?_
  rintro e w' ⟨rfl, rfl⟩
  go_wp2_with fail
  rw [← HT.out]
  refine (Encode_ok k m n s N t hk12.1 HN.out (by omega) HS.out HNN.out (by omega) _).mono ?_
  rintro e w2 ⟨g, c, rfl, hcc, hT2, hb2⟩
  have B2 := Lib.hid (B1.out.trans (hb2.mono B1.out.size))
  have T2 : Hid (ColO w1.heap.size g n c (shT k s (cutM s (strAt t))) w2) := Lib.hid hT2
  have HW1 : Hid (w.heap.size ≤ w1.heap.size) := Lib.hid B1.out.size
  clear hb2 hT2 B1 hsum hsum2
  have hn1 : 1 ≤ n := by have := HN.out; omega
  obtain ⟨q, hq⟩ : ∃ q, q = pk w0 n := ⟨_, rfl⟩
  have hqn : q < n := by rw [hq]; exact pk_lt w0 n hn1
  have HQ := Lib.hid (pick_any w0 n hn1 hw0)
  rw [← hq] at HQ
  clear hq
  by_cases hte : t.size = 0
  · have hte2 : t = ⟨#[]⟩ := by
      apply ByteArray.ext
      exact Array.eq_empty_of_size_eq_zero hte
    subst hte2
    go_wp2_with fail
    go_ret
    exact ⟨rfl, B2.out⟩
  by_cases hy : y = 0
  · subst hy
    go_wp2_with fail
    all_goals
      go_ret
      exact ⟨rfl, B2.out⟩
  have hteB : (t.toList == ([] : List UInt8)) = false := by
    simp [ByteArray.toList_eq]
    intro e; exact hte (by rw [← size_toList, e]; rfl)
  have hyB : ((y.toNat : Int) == 0) = false := by
    simp; intro e; exact hy (UInt8.toNat_inj.1 (by simpa using e))
  have HS1 := Lib.hid (HSP.out hte)
  go_wp2_with fail
  refine (HQ.out _).mono ?_
  rintro e w' ⟨rfl, rfl⟩
  obtain ⟨xq, hxq⟩ : ∃ xq, xq = shT k s (cutM s (strAt t)) q := ⟨_, rfl⟩
  have hxs : xq.size = s := by rw [hxq, shT_size]
  have cq := T2.out.t q hqn
  rw [Nat.zero_add, ← hxq] at cq
  have HXQ := Lib.hid hxq
  obtain ⟨a, ha⟩ : ∃ a, a = pk a0 s := ⟨_, rfl⟩
  have has : a < s := by rw [ha]; exact pk_lt a0 s HS1.out
  have HA := Lib.hid (pick_any a0 s HS1.out ha0)
  rw [← ha] at HA
  have HXS := Lib.hid hxs
  clear hxq ha hteB hyB hsum3
  go_wp2_with (first | (refine wpList_string_bytes rfl 9 50 _ rfl 5 xq rfl Try.underlying9 Try.underlying50 Try.underlying5 (by unfold maxLen; omega) ?_; intro cap w3 hrow hb3; go_frame))
  obtain ⟨G, hG⟩ : ∃ G, G = w2.heap.size := ⟨_, rfl⟩
  rw [← hG] at hrow hb3 ⊢
  have hgG : g < G := by rw [hG]; exact T2.out.lt
  have B3 : Hid (Below w.heap.size w w3) := Lib.hid (B2.out.trans (hb3.out.mono (by rw [hG]; exact B2.out.size)))
  have hwG : w.heap.size ≤ G := by rw [hG]; exact B2.out.size
  obtain ⟨z, hz⟩ : ∃ z, z = strAt xq a := ⟨_, rfl⟩
  have ca : w3.cell? ⟨G, a, none⟩ = some (.int .u8 (z.toNat : Int)) := by
    refine hrow.out.told a _ ?_
    rw [List.getElem?_map, List.getElem?_eq_getElem (by rw [size_toList, HXS.out]; exact has), hz, strAt_eq, List.getD, List.getElem?_eq_getElem (by rw [size_toList, HXS.out]; exact has)]; rfl
  have fa := hrow.out.free a (by have := hrow.out.le; rw [HXS.out] at this; omega)
  have R4 : Hid ((w3.setCell ⟨G, a, none⟩ (.int .u8 (xr z y).toNat)).rangeAt G 0 ((xq.data.toList.set a (xr z y)).map u8v)) := Lib.hid (by rw [List.map_set]; exact range_setE hrow.out.told)
  have T4 : Hid (ColO w1.heap.size g n c (shT k s (cutM s (strAt t))) (w3.setCell ⟨G, a, none⟩ (.int .u8 (xr z y).toNat))) := Lib.hid (T2.out.below (by rw [← hG]; exact hb3.out.setCell (p := ⟨G, a, none⟩) (Nat.le_refl _) _))
  have B4 : Hid (Below w.heap.size w (w3.setCell ⟨G, a, none⟩ (.int .u8 (xr z y).toNat))) := Lib.hid (B3.out.setCell (p := ⟨G, a, none⟩) hwG _)
  have HL4 : Hid ((xq.data.toList.set a (xr z y)).length = s) := Lib.hid (by rw [List.length_set, size_toList, HXS.out])
  have HO : Hid ((⟨(xq.data.toList.set a (xr z y)).toArray⟩ : ByteArray) = otherT (shT k s (cutM s (strAt t)) q) a y) := Lib.hid (by rw [← HXQ.out]; unfold otherT; rw [hz])
  obtain ⟨w4, hw4⟩ : ∃ w4, w4 = w3.setCell ⟨G, a, none⟩ (.int .u8 (xr z y).toNat) := ⟨_, rfl⟩
  have HW4 := Lib.hid hw4
  rw [← hw4] at R4 T4 B4
  have cq4 := T4.out.t q hqn
  rw [Nat.zero_add, ← HXQ.out] at cq4
  have fq4 := T4.out.free q
  obtain ⟨xo, hxo⟩ : ∃ xo, xo = otherT (shT k s (cutM s (strAt t)) q) a y := ⟨_, rfl⟩
  have HXO := Lib.hid hxo
  have C5 : Hid (ColT g n (fun j => if j = q then xo else shT k s (cutM s (strAt t)) j) (w4.setCell ⟨g, q, none⟩ (.string xo))) := Lib.hid (T4.out.set xo hqn)
  have B5 : Hid (Below w.heap.size w (w4.setCell ⟨g, q, none⟩ (.string xo))) := Lib.hid (B4.out.setCell (p := ⟨g, q, none⟩) (Nat.le_trans (by have := T4.out.lo; have := B2; exact HW1.out) T4.out.lo) _)
  clear hz hw4 hxo cq hb3 B3 T2 hG
  refine (HA.out _).mono ?_
  rintro e w' ⟨rfl, rfl⟩
  go_wp2_with (first | (refine wpList_bytes_string rfl 50 9 _ rfl 5 G 0 s cap rfl (xq.data.toList.set a (xr z y)) HL4.out Try.underlying50 Try.underlying5 Try.underlying9 (by rw [← HW4.out]; exact R4.out) ?_; rw [HO.out, ← HXO.out]; rw [← HW4.out]; go_frame))
  have HCK : Hid (chkB k m s (fun j => if j = q then xo else shT k s (cutM s (strAt t)) j) = false) := Lib.hid (by
    rw [HXO.out]; exact found hm12.1 HN.out (by omega) hqn has hy)
  have HCS : Hid (∀ j, j < n → ((fun j => if j = q then xo else shT k s (cutM s (strAt t)) j) j).size = s) := Lib.hid (fun j _ => by
    show (if j = q then xo else shT k s (cutM s (strAt t)) j).size = s
    split
    · rw [HXO.out, otherT_size, shT_size]
    · rw [shT_size])
  clear ca fa cq4 fq4
  refine (Check_ok k m n s g 0 c _ hk12.1 HN.out (by omega) hcc (by omega) HCS.out _ C5.out.t C5.out.lt).mono ?_
  rintro e w6 ⟨rfl, hb6⟩
  rw [HCK.out]
  have B6 := Lib.hid (B5.out.trans (hb6.mono B5.out.size))
  clear hb6
  go_wp2_with fail
  go_ret
  exact ⟨rfl, B6.out⟩
end Go.Proofs.Yteanbflbclmeeaa
