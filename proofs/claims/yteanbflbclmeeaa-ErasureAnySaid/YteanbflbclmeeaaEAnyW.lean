/- The walk of ErasureAny. -/
import Derived.Test.YteanbflbclmeeaaEPcs
namespace Go.Proofs.Yteanbflbclmeeaa
open Go.RowKit

/-- What stands while all pieces are laid down. -/
structure AnS (g n : Nat) (F : Nat → ByteArray) (has : Nat → Bool) (dat : Nat → ByteArray) (i : Nat) (w0 w : World) : Prop where
  p : PcB g n has dat w
  old : Below w0.heap.size w0 w
  lo : w0.heap.size ≤ g
  yes : ∀ j, j < i → has j = true
  eq : ∀ j, j < i → dat j = F j
theorem AnS.set {g n i : Nat} {F : Nat → ByteArray} {has : Nat → Bool} {dat : Nat → ByteArray} {w0 w w' : World} (h : AnS g n F has dat i w0 w) (hp : PcB g n (upd has i true) (upd dat i (F i)) w') (hk : Kept w.heap.size [g] w w') : AnS g n F (upd has i true) (upd dat i (F i)) (i + 1) w0 w' :=
  ⟨hp, below_kept h.old hk h.lo h.old.size, h.lo, fun j hj => by
    by_cases e : j = i
    · rw [e, upd_same]
    · rw [upd_other _ _ e]; exact h.yes j (by omega), fun j hj => by
    by_cases e : j = i
    · rw [e, upd_same]
    · rw [upd_other _ _ e]; exact h.eq j (by omega)⟩
/-- What stands while pieces are lost. -/
structure LoS (g n : Nat) (F : Nat → ByteArray) (has : Nat → Bool) (dat : Nat → ByteArray) (i : Nat) (w0 w : World) : Prop where
  p : PcB g n has dat w
  old : Below w0.heap.size w0 w
  lo : w0.heap.size ≤ g
  many : n ≤ (hereL has n).length + i
  eq : ∀ j, j < n → has j = true → dat j = F j
theorem AnS.los {g n : Nat} {F : Nat → ByteArray} {has : Nat → Bool} {dat : Nat → ByteArray} {w0 w : World} (h : AnS g n F has dat n w0 w) : LoS g n F has dat 0 w0 w :=
  ⟨h.p, h.old, h.lo, by rw [here_all h.yes]; exact Nat.le_refl _, fun j hj _ => h.eq j hj⟩
theorem LoS.set {g n q i : Nat} {F : Nat → ByteArray} {has : Nat → Bool} {dat : Nat → ByteArray} {x : ByteArray} {w0 w w' : World} (h : LoS g n F has dat i w0 w) (hp : PcB g n (upd has q false) (upd dat q x) w') (hk : Kept w.heap.size [g] w w') : LoS g n F (upd has q false) (upd dat q x) (i + 1) w0 w' :=
  ⟨hp, below_kept h.old hk h.lo h.old.size, h.lo, by
    have := here_one (h1 := has) (h2 := upd has q false) (q := q) (fun x hx => (upd_other _ _ hx).symm) n
    have := h.many
    split at * <;> omega, fun j hj hh => by
    by_cases e : j = q
    · rw [e, upd_same] at hh; cases hh
    · rw [upd_other _ _ e] at hh ⊢; exact h.eq j hj hh⟩
set_option maxRecDepth 20000 in
set_option maxHeartbeats 2000000 in
theorem Any_walk (k0 m0 : Int) (x : ByteArray) (a0 : Option Addr) (len cap : Nat) (fi : Nat → Int) (junk : ByteArray) (hk0 : -9223372036854775808 ≤ k0 ∧ k0 ≤ 9223372036854775807) (hm0 : -9223372036854775808 ≤ m0 ∧ m0 ≤ 9223372036854775807) (hx : x.size ≤ 140737488355328) (hL : len ≤ 140737488355328) (hfi : ∀ j, -9223372036854775808 ≤ fi j ∧ fi j ≤ 9223372036854775807)
    (w : World) (hI : 0 < len → ∃ b o, a0 = some ⟨b, o, none⟩ ∧ b < w.heap.size ∧ Ints b o len fi w) :
    Calls Try.prog 4 #[.int .i64 k0, .int .i64 m0, .string x, .slice a0 len cap, .string junk] w fun e w' => e = .returned (.bool true) ∧ Below w.heap.size w w' := by
  obtain ⟨k, hk⟩ : ∃ k, k = 1 + pk k0 10 := ⟨_, rfl⟩
  have hk12 : 1 ≤ k ∧ k ≤ 10 := by have := pk_lt k0 10 (by decide); omega
  have hsum : (1 : Int) + (pk k0 10 : Int) = (k : Int) := by omega
  obtain ⟨m, hm⟩ : ∃ m, m = pk m0 7 := ⟨_, rfl⟩
  have hm12 : m ≤ 6 := by have := pk_lt m0 7 (by decide); omega
  have HPM := Lib.hid (pick_any m0 7 (by decide) hm0)
  rw [← hm] at HPM
  obtain ⟨n, hn⟩ : ∃ n, k + m = n := ⟨_, rfl⟩
  have hn16 : n ≤ 16 := by omega
  have hn1 : 1 ≤ n := by omega
  obtain ⟨t, ht⟩ : ∃ t, t = x.extract 0 (min (x.size : Int) 2000).toNat := ⟨_, rfl⟩
  have hts : t.size ≤ 2000 := by rw [ht, ByteArray.size_extract]; omega
  obtain ⟨s, hs⟩ : ∃ s, szN k t.size = s := ⟨_, rfl⟩
  obtain ⟨N, hN⟩ : ∃ N, k * s = N := ⟨_, rfl⟩
  have hNm : N ≤ 2100 := by
    have := szN_small hk12.1 t.size
    rw [hs, hN] at this; omega
  have hss : s ≤ 2000 := by have := szN_le hk12.1 t.size; omega
  have HN := Lib.hid hn
  have HS := Lib.hid hs
  have HNN := Lib.hid hN
  have HT := Lib.hid ht
  have HI := Lib.hid hI
  have HFI := Lib.hid hfi
  have hsum3 : (k : Int) + (m : Int) = (n : Int) := by omega
  have hnb := nat_eq_B (i := n) (p := n) rfl
  clear hk hm hn hs hN ht hI hfi
  go_enter Try.func4, Try.ntmps4
  go_wp2_with fail
  refine (eknown_any _).mono ?_
  rintro e w1 ⟨rfl, hb1⟩
  have B1 := Lib.hid hb1
  clear hb1
  go_wp2_with fail
  refine (pick_any k0 10 (by decide) hk0 _).mono ?_
  rintro e w' ⟨rfl, rfl⟩
  go_wp2_with fail
  refine (HPM.out _).mono ?_
  rintro e w' ⟨rfl, rfl⟩
  go_wp2_with fail
  rw [← HT.out]
  refine (Encode_ok k m n s N t hk12.1 HN.out (by omega) HS.out HNN.out (by omega) _).mono ?_
  rintro e w2 ⟨g, c, rfl, hcc, hT2, hb2⟩
  have B2 := Lib.hid (B1.out.trans (hb2.mono B1.out.size))
  obtain ⟨F, hF⟩ : ∃ F : Nat → ByteArray, F = shT k s (cutM s (strAt t)) := ⟨_, rfl⟩
  rw [← hF] at hT2
  have T2 : Hid (ColT g n F w2) := Lib.hid hT2.col
  have HF := Lib.hid hF
  have hmk := make_pieces n (by omega)
  clear hb2 hT2 B1 hsum hF
  go_wp2_with fail
  obtain ⟨S0, hS0⟩ : ∃ S0, S0 = w2 := ⟨_, rfl⟩
  have BS : Hid (Below w.heap.size w S0) := Lib.hid (by rw [hS0]; exact B2.out)
  have TS : Hid (ColT g n F S0) := Lib.hid (by rw [hS0]; exact T2.out)
  rw [← hS0]
  have HP0 : Hid (AnS S0.heap.size n F (fun _ => false) (fun _ => .empty) 0 S0 (S0.alloc (.cells (pcL (fun _ => false) (fun _ => .empty) n).toArray 42))) := Lib.hid
    ⟨heap_alloc_new _ _, below_alloc _ _, Nat.le_refl _, fun j h => by omega, fun j h => by omega⟩
  clear hS0 B2 T2 hmk hnb
  go_loopw [15] (fun iv wr => ∃ (i : Nat) (has : Nat → Bool) (dat : Nat → ByteArray), i ≤ n ∧ iv = .int .i64 i ∧ AnS S0.heap.size n F has dat i S0 wr) (fun iv _ => n - (intOf iv).toNat)
  case atStart => exact ⟨0, _, _, by omega, rfl, HP0.out⟩
  case round =>
    clear HP0
    obtain ⟨i, has, dat, hi, rfl, hR⟩ := hrel
    have HR := Lib.hid hR
    by_cases hlt : i < n
    · have cq := (TS.out.below hR.old).t i hlt
      rw [Nat.zero_add] at cq
      obtain ⟨xq, hxq⟩ : ∃ xq, xq = F i := ⟨_, rfl⟩
      rw [← hxq] at cq
      have HXQ := Lib.hid hxq
      clear hR hxq
      go_wp2_with (first | (refine wpList_store_piece rfl _ _ rfl S0.heap.size n i has dat true xq rfl rfl HR.out.p hlt ?_; intro w7 h7 k7; have R7 := Lib.hid (HR.out.set (by rw [← HXQ.out]; exact h7.out) k7.out); clear h7 k7; go_frame))
      go_roundw
      case rel => exact ⟨i + 1, _, _, by omega, by go_num, R7.out⟩
      case measure => simp [intOf]; omega
    · obtain rfl : n = i := by omega
      have HL0 := Lib.hid hR.los
      clear hR HR hlt hi
      go_wp2_with fail
      go_loopw [16] (fun iv wr => ∃ (i : Nat) (has : Nat → Bool) (dat : Nat → ByteArray), i ≤ m ∧ iv = .int .i64 i ∧ LoS S0.heap.size n F has dat i S0 wr) (fun iv _ => m - (intOf iv).toNat)
      case atStart => exact ⟨0, _, _, by omega, rfl, HL0.out⟩
      case round =>
        clear HL0
        obtain ⟨i, has, dat, hi, rfl, hR⟩ := hrel
        have HR := Lib.hid hR
        by_cases hlt : i < m ∧ i < len
        · obtain ⟨h1, h2⟩ := hlt
          obtain ⟨b, o, rfl, hbl, hit⟩ := HI.out (by omega)
          obtain ⟨v, hv⟩ : ∃ v, v = fi i := ⟨_, rfl⟩
          have hvb := HFI.out i
          rw [← hv] at hvb
          have cv : wr.cell? ⟨b, o + i, none⟩ = some (.int .i64 v) := by
            rw [hv]
            exact ((BS.out.trans (hR.old.mono BS.out.size)).cell (p := ⟨b, o + i, none⟩) hbl).trans (hit i h2)
          obtain ⟨q, hq⟩ : ∃ q, q = pk v n := ⟨_, rfl⟩
          have hqn : q < n := by rw [hq]; exact pk_lt v n hn1
          have HQ := Lib.hid (pick_any v n hn1 hvb)
          rw [← hq] at HQ
          clear hR hv hq hit
          go_wp2_with fail
          refine (HQ.out _).mono ?_
          rintro e w' ⟨rfl, rfl⟩
          go_wp2_with (first | (refine wpList_store_piece rfl _ _ rfl S0.heap.size n q has dat false junk rfl rfl HR.out.p hqn ?_; intro w7 h7 k7; have R7 := Lib.hid (HR.out.set h7.out k7.out); clear h7 k7; go_frame))
          go_roundw
          case rel => exact ⟨i + 1, _, _, by omega, by go_num, R7.out⟩
          case measure => simp [intOf]; omega
        · have HFS : Hid (∀ j, (F j).size = s) := Lib.hid (fun j => by rw [HF.out, shT_size])
          have HJO : Hid ((catT F k).extract 0 t.size = t) := Lib.hid (joined hk12.1 HS.out (fun j _ => by rw [HF.out]))
          have HCK : Hid (chkB k m s F = true) := Lib.hid (by rw [HF.out]; exact checked k m s _)
          have hmany := hR.many
          have hkR : k ≤ (hereL has n).length := by have := HN.out; omega
          have HRS : Hid (Calls Try.prog 17 #[.int .i64 k, .int .i64 m, .int .i64 t.size, .slice (some ⟨S0.heap.size, 0, none⟩) n n] wr fun e w' => ∃ r cr, e = .returned (.tuple #[.slice (some ⟨r, 0, none⟩) n cr, .nilIface]) ∧ n ≤ cr ∧ ColT r n F w' ∧ Below wr.heap.size wr w') := Lib.hid (by
            refine (Restore_ok k m n s t.size n (hereL has n).length (some ⟨S0.heap.size, 0, none⟩) has dat (fun r => (hereL has n).getD r 0) hk12.1 HN.out (by omega) (by omega) HS.out (by omega) rfl hkR rfl (fun j hj hh => by rw [hR.eq j hj hh, HFS.out]) wr hR.p.px).mono ?_
            rintro e w' ⟨r, cr, rfl, hcr, hT, hb⟩
            refine ⟨r, cr, rfl, hcr, ⟨fun j hj => ?_, hT.lt⟩, hb⟩
            rw [hT.t j hj, HF.out]
            congr 2
            refine restored (n := n) (by omega) (by have := HN.out; omega) (fun r hr => (hereL_at (by omega)).1) (fun r r' hr hr' e => hereL_inj (by omega) (by omega) e) (fun r hr => ?_) j
            have h3 := hereL_at (has := has) (n := n) (r := r) (by omega)
            rw [hR.eq _ h3.1 h3.2, HF.out])
          have BR := Lib.hid (BS.out.trans (hR.old.mono BS.out.size))
          have TR := Lib.hid (TS.out.below hR.old)
          clear hR HR hmany
          by_cases h1 : i < m
          · have h2 : ¬ i < len := fun h => hlt ⟨h1, h⟩
            clear hlt
            go_wp2_with fail
            refine HRS.out.mono ?_
            rintro e w5 ⟨r, cr, rfl, hcr, hT5, hb5⟩
            have B5 := Lib.hid (BR.out.trans (hb5.mono BR.out.size))
            have T5 := Lib.hid hT5
            have G5 := Lib.hid (TR.out.below hb5)
            clear hT5 hb5 HRS BR TR
            go_wp2_with fail
            refine (Join_ok k n s t.size r 0 cr F hk12.1 (by omega) (by have := HN.out; omega) hcr HS.out (by omega) (by omega) (fun j _ => HFS.out j) _ T5.out.t T5.out.lt).mono ?_
            rintro e w6 ⟨rfl, hb6⟩
            rw [HJO.out]
            have B6 := Lib.hid (B5.out.trans (hb6.mono B5.out.size))
            have T6 := Lib.hid (T5.out.below hb6)
            have G6 := Lib.hid (G5.out.below hb6)
            clear hb6 B5 T5 G5
            go_wp2_with fail
            refine (Check_ok k m n s r 0 cr F hk12.1 HN.out (by omega) hcr (by omega) (fun j _ => HFS.out j) _ T6.out.t T6.out.lt).mono ?_
            rintro e w7 ⟨rfl, hb7⟩
            rw [HCK.out]
            have B7 := Lib.hid (B6.out.trans (hb7.mono B6.out.size))
            have T7 := Lib.hid (T6.out.below hb7)
            have G7 := Lib.hid (G6.out.below hb7)
            clear hb7 B6 T6 G6
            go_wp2_with fail
            refine (eSame_yes n cr c _ _ F F (by omega) (fun _ _ => rfl) _ (fun _ => ⟨r, 0, rfl, T7.out.lt, T7.out.t⟩) (fun _ => ⟨g, 0, rfl, G7.out.lt, G7.out.t⟩)).mono ?_
            rintro e w8 ⟨rfl, hb8⟩
            have B8 := Lib.hid (B7.out.trans (hb8.mono B7.out.size))
            clear hb8 B7 T7 G7
            go_wp2_with fail
            go_ret
            exact ⟨rfl, B8.out⟩
          · clear hlt
            go_wp2_with fail
            refine HRS.out.mono ?_
            rintro e w5 ⟨r, cr, rfl, hcr, hT5, hb5⟩
            have B5 := Lib.hid (BR.out.trans (hb5.mono BR.out.size))
            have T5 := Lib.hid hT5
            have G5 := Lib.hid (TR.out.below hb5)
            clear hT5 hb5 HRS BR TR
            go_wp2_with fail
            refine (Join_ok k n s t.size r 0 cr F hk12.1 (by omega) (by have := HN.out; omega) hcr HS.out (by omega) (by omega) (fun j _ => HFS.out j) _ T5.out.t T5.out.lt).mono ?_
            rintro e w6 ⟨rfl, hb6⟩
            rw [HJO.out]
            have B6 := Lib.hid (B5.out.trans (hb6.mono B5.out.size))
            have T6 := Lib.hid (T5.out.below hb6)
            have G6 := Lib.hid (G5.out.below hb6)
            clear hb6 B5 T5 G5
            go_wp2_with fail
            refine (Check_ok k m n s r 0 cr F hk12.1 HN.out (by omega) hcr (by omega) (fun j _ => HFS.out j) _ T6.out.t T6.out.lt).mono ?_
            rintro e w7 ⟨rfl, hb7⟩
            rw [HCK.out]
            have B7 := Lib.hid (B6.out.trans (hb7.mono B6.out.size))
            have T7 := Lib.hid (T6.out.below hb7)
            have G7 := Lib.hid (G6.out.below hb7)
            clear hb7 B6 T6 G6
            go_wp2_with fail
            refine (eSame_yes n cr c _ _ F F (by omega) (fun _ _ => rfl) _ (fun _ => ⟨r, 0, rfl, T7.out.lt, T7.out.t⟩) (fun _ => ⟨g, 0, rfl, G7.out.lt, G7.out.t⟩)).mono ?_
            rintro e w8 ⟨rfl, hb8⟩
            have B8 := Lib.hid (B7.out.trans (hb8.mono B7.out.size))
            clear hb8 B7 T7 G7
            go_wp2_with fail
            go_ret
            exact ⟨rfl, B8.out⟩
end Go.Proofs.Yteanbflbclmeeaa
