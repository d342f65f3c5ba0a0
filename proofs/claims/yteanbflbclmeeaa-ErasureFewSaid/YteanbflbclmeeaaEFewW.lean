/- The walk of ErasureFew. -/
import Derived.Test.YteanbflbclmeeaaEPcs
namespace Go.Proofs.Yteanbflbclmeeaa
open Go.RowKit

/-- What stands while pieces are laid down. -/
structure FwS (g n : Nat) (F : Nat → ByteArray) (has : Nat → Bool) (dat : Nat → ByteArray) (i : Nat) (w0 w : World) : Prop where
  p : PcB g n has dat w
  old : Below w0.heap.size w0 w
  lo : w0.heap.size ≤ g
  few : (hereL has n).length ≤ i
  eq : ∀ j, j < n → has j = true → dat j = F j
theorem FwS.set {g n q i : Nat} {F : Nat → ByteArray} {has : Nat → Bool} {dat : Nat → ByteArray} {w0 w w' : World} (h : FwS g n F has dat i w0 w) (hp : PcB g n (upd has q true) (upd dat q (F q)) w') (hk : Kept w.heap.size [g] w w') : FwS g n F (upd has q true) (upd dat q (F q)) (i + 1) w0 w' :=
  ⟨hp, below_kept h.old hk h.lo h.old.size, h.lo, by
    have := here_one (h1 := upd has q true) (h2 := has) (q := q) (fun x hx => upd_other _ _ hx) n
    have := h.few
    split at * <;> omega, fun j hj hh => by
    by_cases e : j = q
    · rw [e, upd_same]
    · rw [upd_other _ _ e] at hh ⊢; exact h.eq j hj hh⟩
set_option maxRecDepth 20000 in
set_option maxHeartbeats 2000000 in
theorem Few_walk (k0 m0 : Int) (x : ByteArray) (a0 : Option Addr) (len cap : Nat) (fi : Nat → Int) (hk0 : -9223372036854775808 ≤ k0 ∧ k0 ≤ 9223372036854775807) (hm0 : -9223372036854775808 ≤ m0 ∧ m0 ≤ 9223372036854775807) (hx : x.size ≤ 140737488355328) (hL : len ≤ 140737488355328) (hfi : ∀ j, -9223372036854775808 ≤ fi j ∧ fi j ≤ 9223372036854775807)
    (w : World) (hI : 0 < len → ∃ b o, a0 = some ⟨b, o, none⟩ ∧ b < w.heap.size ∧ Ints b o len fi w) :
    Calls Try.prog 5 #[.int .i64 k0, .int .i64 m0, .string x, .slice a0 len cap] w fun e w' => e = .returned (.bool true) ∧ Below w.heap.size w w' := by
  obtain ⟨k, hk⟩ : ∃ k, k = 1 + pk k0 10 := ⟨_, rfl⟩
  have hk12 : 1 ≤ k ∧ k ≤ 10 := by have := pk_lt k0 10 (by decide); omega
  have hsum : (1 : Int) + (pk k0 10 : Int) = (k : Int) := by omega
  obtain ⟨m, hm⟩ : ∃ m, m = pk m0 7 := ⟨_, rfl⟩
  have hm12 : m ≤ 6 := by have := pk_lt m0 7 (by decide); omega
  have HPM := Lib.hid (pick_any m0 7 (by decide) hm0)
  rw [← hm] at HPM
  obtain ⟨n, hn⟩ : ∃ n, k + m = n := ⟨_, rfl⟩
  have hn16 : n ≤ 16 := by omega
  have hn1 : 1 ≤ n := by omega
  obtain ⟨t, ht⟩ : ∃ t, t = x.extract 0 (min (x.size : Int) 500).toNat := ⟨_, rfl⟩
  have hts : t.size ≤ 500 := by rw [ht, ByteArray.size_extract]; omega
  obtain ⟨s, hs⟩ : ∃ s, szN k t.size = s := ⟨_, rfl⟩
  obtain ⟨N, hN⟩ : ∃ N, k * s = N := ⟨_, rfl⟩
  have hNm : N ≤ 600 := by
    have := szN_small hk12.1 t.size
    rw [hs, hN] at this; omega
  have hss : s ≤ 500 := by have := szN_le hk12.1 t.size; omega
  have HN := Lib.hid hn
  have HS := Lib.hid hs
  have HNN := Lib.hid hN
  have HT := Lib.hid ht
  have HI := Lib.hid hI
  have HFI := Lib.hid hfi
  have hsum3 : (k : Int) + (m : Int) = (n : Int) := by omega
  have hnb := nat_eq_B (i := n) (p := n) rfl
  obtain ⟨k1, hk1⟩ : ∃ k1, k = k1 + 1 := ⟨k - 1, by omega⟩
  have hkm1 : (k : Int) - 1 = (k1 : Int) := by omega
  have hk1k : k1 < k := by omega
  clear hk hm hn hs hN ht hk1 hI hfi
  go_enter Try.func5, Try.ntmps5
  go_wp2_with fail
  refine (eknown_any _).mono ?_
  rintro e w1 ⟨rfl, hb1⟩
  have B1 := Lib.hid hb1
  clear hb1
  go_wp2_with fail
  refine (pick_any k0 10 (by decide) hk0 _).mono ?_
  rintro e w' ⟨rfl, rfl⟩
  go_wp2_with fail
  refine (HPM.out _).mono ?_
  rintro e w' ⟨rfl, rfl⟩
  go_wp2_with fail
  rw [← HT.out]
  refine (Encode_ok k m n s N t hk12.1 HN.out (by omega) HS.out HNN.out (by omega) _).mono ?_
  rintro e w2 ⟨g, c, rfl, hcc, hT2, hb2⟩
  have B2 := Lib.hid (B1.out.trans (hb2.mono B1.out.size))
  obtain ⟨F, hF⟩ : ∃ F : Nat → ByteArray, F = shT k s (cutM s (strAt t)) := ⟨_, rfl⟩
  rw [← hF] at hT2
  have T2 : Hid (ColT g n F w2) := Lib.hid hT2.col
  have HF := Lib.hid hF
  have hmk := make_pieces n (by omega)
  clear hb2 hT2 B1 hsum hF
  go_wp2_with fail
  obtain ⟨S0, hS0⟩ : ∃ S0, S0 = w2 := ⟨_, rfl⟩
  have BS : Hid (Below w.heap.size w S0) := Lib.hid (by rw [hS0]; exact B2.out)
  have TS : Hid (ColT g n F S0) := Lib.hid (by rw [hS0]; exact T2.out)
  rw [← hS0]
  have HP0 : Hid (FwS S0.heap.size n F (fun _ => false) (fun _ => .empty) 0 S0 (S0.alloc (.cells (pcL (fun _ => false) (fun _ => .empty) n).toArray 42))) := Lib.hid
    ⟨heap_alloc_new _ _, below_alloc _ _, Nat.le_refl _, by rw [here_none]; exact Nat.le_refl _, fun j _ h => by cases h⟩
  clear hS0 B2 T2 hmk hnb
  go_loopw [13] (fun iv wr => ∃ (i : Nat) (has : Nat → Bool) (dat : Nat → ByteArray), i ≤ k1 ∧ iv = .int .i64 i ∧ FwS S0.heap.size n F has dat i S0 wr) (fun iv _ => k1 - (intOf iv).toNat)
  case atStart => exact ⟨0, _, _, by omega, rfl, HP0.out⟩
  case round =>
    clear HP0
    obtain ⟨i, has, dat, hi, rfl, hR⟩ := hrel
    have HR := Lib.hid hR
    by_cases hlt : i < k1 ∧ i < len
    · obtain ⟨h1, h2⟩ := hlt
      obtain ⟨b, o, rfl, hbl, hit⟩ := HI.out (by omega)
      obtain ⟨v, hv⟩ : ∃ v, v = fi i := ⟨_, rfl⟩
      have hvb := HFI.out i
      rw [← hv] at hvb
      have cv : wr.cell? ⟨b, o + i, none⟩ = some (.int .i64 v) := by
        rw [hv]
        exact ((BS.out.trans (hR.old.mono BS.out.size)).cell (p := ⟨b, o + i, none⟩) hbl).trans (hit i h2)
      obtain ⟨q, hq⟩ : ∃ q, q = pk v n := ⟨_, rfl⟩
      have hqn : q < n := by rw [hq]; exact pk_lt v n hn1
      have HQ := Lib.hid (pick_any v n hn1 hvb)
      rw [← hq] at HQ
      have cq := (TS.out.below hR.old).t q hqn
      rw [Nat.zero_add] at cq
      obtain ⟨xq, hxq⟩ : ∃ xq, xq = F q := ⟨_, rfl⟩
      rw [← hxq] at cq
      have HXQ := Lib.hid hxq
      clear hR hv hq hit hxq
      go_wp2_with fail
      refine (HQ.out _).mono ?_
      rintro e w' ⟨rfl, rfl⟩
      go_wp2_with (first | (refine wpList_store_piece rfl _ _ rfl S0.heap.size n q has dat true xq rfl rfl HR.out.p hqn ?_; intro w7 h7 k7; have R7 := Lib.hid (HR.out.set (by rw [← HXQ.out]; exact h7.out) k7.out); clear h7 k7; go_frame))
      go_roundw
      case rel => exact ⟨i + 1, _, _, by omega, by go_num, R7.out⟩
      case measure => simp [intOf]; omega
    · have HRF := Lib.hid (Restore_few k m n s t.size n (hereL has n).length (some ⟨S0.heap.size, 0, none⟩) has dat hk12.1 HN.out (by omega) (by omega) HS.out rfl (by have := hR.few; omega) (fun j hj hh => by rw [hR.eq j hj hh, HF.out, shT_size]) wr hR.p.px)
      have BR := Lib.hid (BS.out.trans (hR.old.mono BS.out.size))
      clear hR HR
      by_cases h1 : i < k1
      · have h2 : ¬ i < len := fun h => hlt ⟨h1, h⟩
        clear hlt
        go_wp2_with fail
        refine HRF.out.mono ?_
        rintro e w5 ⟨g5, _, rfl, hF5, hb5⟩
        have B5 := Lib.hid (BR.out.trans (hb5.mono BR.out.size))
        have F5 := Lib.hid hF5
        clear hF5 hb5 HRF BR
        go_wp2_with fail
        refine (is_fault g5 17 (by decide) _ F5.out).mono ?_
        rintro e w' ⟨rfl, rfl⟩
        go_wp2_with fail
        go_ret
        exact ⟨rfl, B5.out⟩
      · clear hlt
        go_wp2_with fail
        refine HRF.out.mono ?_
        rintro e w5 ⟨g5, _, rfl, hF5, hb5⟩
        have B5 := Lib.hid (BR.out.trans (hb5.mono BR.out.size))
        have F5 := Lib.hid hF5
        clear hF5 hb5 HRF BR
        go_wp2_with fail
        refine (is_fault g5 17 (by decide) _ F5.out).mono ?_
        rintro e w' ⟨rfl, rfl⟩
        go_wp2_with fail
        go_ret
        exact ⟨rfl, B5.out⟩
end Go.Proofs.Yteanbflbclmeeaa
