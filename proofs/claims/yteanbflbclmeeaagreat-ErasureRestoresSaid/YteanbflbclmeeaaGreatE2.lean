/- Erasure: the matrix of all shards; the first ones told by others; Size, Encode, Restore. -/
import Derived.Test.YteanbflbclmeeaaGreatE1
import Derived.Deep.RegionWith
/-! EMaker -/
namespace Go.Proofs.YteanbflbclmeeaaGreat
open Go.RowKit

theorem enc_top (k : Nat) : Alike k k dl (encM k) := fun i j hi _ => by unfold encM underM; rw [if_pos hi]
set_option maxRecDepth 20000 in
set_option maxHeartbeats 2000000 in
theorem maker_some (k m n N : Nat) (hk1 : 1 ≤ k) (hm1 : 1 ≤ m) (hn : k + m = n) (hkm : n ≤ 255) (hN : n * k = N) (w : World) :
    Calls Tryz.prog 38 #[.int .i64 k, .int .i64 m] w fun e w' => ∃ g, e = .returned (mv g n k N) ∧ Tab g (encM k) n k w' ∧ Below w.heap.size w w' := by
  obtain ⟨N1, hN1⟩ : ∃ N, k * k = N := ⟨_, rfl⟩
  obtain ⟨N2, hN2⟩ : ∃ N, m * k = N := ⟨_, rfl⟩
  have H1 := Lib.hid hN1
  have H2 := Lib.hid hN2
  have H3 := Lib.hid hN
  have HN := Lib.hid hn
  have hm0 : ((m : Int) == 0) = false := by simp; omega
  have R0 : Hid (ResAt w.heap.size 62 (w.alloc (.cells #[.int .i64 0, .int .i64 0, .slice none 0 0] 62))) := Lib.hid (heap_alloc_new _ _)
  have B_0 : Hid (Below w.heap.size w (w.alloc (.cells #[.int .i64 0, .int .i64 0, .slice none 0 0] 62))) := Lib.hid (below_alloc _ _)
  clear hN1 hN2 hN hn
  go_enter Tryz.func38, Tryz.ntmps38
  go_wp2_with fail
  refine (tIdent k N1 hk1 (by have := HN.out; omega) H1.out _).mono ?_
  rintro e w2 ⟨g1, rfl, t0, hb2⟩
  have B_1 := Lib.hid (B_0.out.trans (hb2.mono B_0.out.size))
  have R1 := Lib.hid (R0.out.below hb2 R0.out.lt)
  have I_1 := Lib.hid t0
  clear t0 hb2 R0 B_0
  go_wp2_with (refine wpList_store_whole rfl 62 _ _ rfl w2.heap.size [.int .i64 k, .int .i64 k, .slice (some ⟨g1, 0, none⟩) N1 N1] zeroRow 62 rfl rfl (heap_alloc_new _ _) rfl (by kernel_rfl) (mv_ones _ _ _ _) ?_; intro w3 h3 k3 s3; have hs3 := after_box k3.out; have I_2 := Lib.hid ((BoxT.of h3.out k3.out I_1.out).1); have B_2 := Lib.hid (B_1.out.trans (hs3.mono B_1.out.size)); have R2 := Lib.hid (R1.out.below hs3 R1.out.lt); clear B_1 I_1 R1 hs3; go_frame)
  clear h3 k3 s3
  refine (tCauchy m k N2 hm1 (by have := HN.out; omega) hk1 (by have := HN.out; omega) (by have := HN.out; omega) H2.out _).mono ?_
  rintro e w4 ⟨g2, rfl, t0, hb4⟩
  have B_3 := Lib.hid (B_2.out.trans (hb4.mono B_2.out.size))
  have R3 := Lib.hid (R2.out.below hb4 R2.out.lt)
  have I_3 := Lib.hid (I_2.out.below hb4)
  have C_3 := Lib.hid t0
  clear t0 hb4 R2 B_2 I_2
  go_wp2_with (refine wpList_store_whole rfl 62 _ _ rfl w4.heap.size [.int .i64 m, .int .i64 k, .slice (some ⟨g2, 0, none⟩) N2 N2] zeroRow 62 rfl rfl (heap_alloc_new _ _) rfl (by kernel_rfl) (mv_ones _ _ _ _) ?_; intro w5 h5 k5 s5; have hs5 := after_box k5.out; have C_4 := Lib.hid ((BoxT.of h5.out k5.out C_3.out).1); have B_4 := Lib.hid (B_3.out.trans (hs5.mono B_3.out.size)); have R4 := Lib.hid (R3.out.below hs5 R3.out.lt); have I_4 := Lib.hid (I_3.out.below hs5); obtain ⟨c0, c1, c2⟩ := heap_cell0 I_4.out.box; obtain ⟨d0, d1, d2⟩ := heap_cell0 C_4.out.box; clear B_3 I_3 C_3 R3 hs5; go_frame)
  clear h5 k5 s5
  refine (tUnder g1 g2 k m n k N1 N2 N _ _ hk1 hm1 HN.out hkm hk1 (by have := HN.out; omega) H1.out H2.out H3.out _ I_4.out.tab C_4.out.tab).mono ?_
  rintro e w6 ⟨g3, rfl, t0, hb6⟩
  have B_5 := Lib.hid (B_4.out.trans (hb6.mono B_4.out.size))
  have R5 := Lib.hid (R4.out.below hb6 R4.out.lt)
  have A_5 := Lib.hid t0
  clear t0 hb6 R4 B_4 I_4 C_4 c0 c1 c2 d0 d1 d2
  go_wp2_with (first | (refine wpList_store_whole rfl 62 _ _ rfl w6.heap.size [.int .i64 n, .int .i64 k, .slice (some ⟨g3, 0, none⟩) N N] zeroRow 62 rfl rfl (heap_alloc_new _ _) rfl (by kernel_rfl) (mv_ones _ _ _ _) ?_; intro w7 h7 k7 s7; have hs7 := after_box k7.out; have A_6 := Lib.hid ((BoxT.of h7.out k7.out A_5.out).1); have B_6 := Lib.hid (B_5.out.trans (hs7.mono B_5.out.size)); have R6 := Lib.hid (R5.out.below hs7 R5.out.lt); obtain ⟨c0, c1, c2⟩ := heap_cell0 A_6.out.box; clear B_5 A_5 R5 hs7 h7 k7 s7; go_frame) | (refine wpList_store_whole rfl 62 _ _ rfl w.heap.size [.int .i64 n, .int .i64 k, .slice (some ⟨g3, 0, none⟩) N N] zeroRow 62 rfl rfl R6.out rfl (by kernel_rfl) (mv_ones _ _ _ _) ?_; intro w9 h9 k9 s9; go_frame))
  refine bodyPost_ret (results_mid Tryz.results38 _ _ w.heap.size 0 [.int .i64 n, .int .i64 k, .slice (some ⟨g3, 0, none⟩) N N] _ rfl (range_of_list h9.out) Tryz.underlying62 rfl (by kernel_rfl)) rfl ⟨g3, rfl, ?_, ?_⟩
  · refine A_6.out.tab.keep (k9.out.block g3 A_6.out.tab.lt ?_)
    simp
    intro e
    have h1 := R6.out
    have h2 := A_6.out.tab
    unfold ResAt at h1
    unfold Tab at h2
    rw [e, h1] at h2
    injection h2 with h2
    injection h2 with _ h2 _
    exact absurd h2 (by decide)
  · exact below_kept B_6.out k9.out (Nat.le_refl _) B_6.out.size
set_option maxRecDepth 20000 in
set_option maxHeartbeats 2000000 in
theorem maker_none (k N : Nat) (hk1 : 1 ≤ k) (hk2 : k ≤ 255) (hN : k * k = N) (w : World) :
    Calls Tryz.prog 38 #[.int .i64 k, .int .i64 0] w fun e w' => ∃ g, e = .returned (mv g k k N) ∧ Tab g (encM k) k k w' ∧ Below w.heap.size w w' := by
  have H1 := Lib.hid hN
  have R0 : Hid (ResAt w.heap.size 62 (w.alloc (.cells #[.int .i64 0, .int .i64 0, .slice none 0 0] 62))) := Lib.hid (heap_alloc_new _ _)
  have B_0 : Hid (Below w.heap.size w (w.alloc (.cells #[.int .i64 0, .int .i64 0, .slice none 0 0] 62))) := Lib.hid (below_alloc _ _)
  clear hN
  go_enter Tryz.func38, Tryz.ntmps38
  go_wp2_with fail
  refine (tIdent k N hk1 hk2 H1.out _).mono ?_
  rintro e w2 ⟨g1, rfl, t0, hb2⟩
  have B_1 := Lib.hid (B_0.out.trans (hb2.mono B_0.out.size))
  have R1 := Lib.hid (R0.out.below hb2 R0.out.lt)
  have I_1 := Lib.hid t0
  clear t0 hb2 R0 B_0
  go_wp2_with (first | (refine wpList_store_whole rfl 62 _ _ rfl w2.heap.size [.int .i64 k, .int .i64 k, .slice (some ⟨g1, 0, none⟩) N N] zeroRow 62 rfl rfl (heap_alloc_new _ _) rfl (by kernel_rfl) (mv_ones _ _ _ _) ?_; intro w3 h3 k3 s3; have hs3 := after_box k3.out; have I_2 := Lib.hid ((BoxT.of h3.out k3.out I_1.out).1); have B_2 := Lib.hid (B_1.out.trans (hs3.mono B_1.out.size)); have R2 := Lib.hid (R1.out.below hs3 R1.out.lt); obtain ⟨c0, c1, c2⟩ := heap_cell0 I_2.out.box; clear B_1 I_1 R1 hs3 h3 k3 s3; go_frame) | (refine wpList_store_whole rfl 62 _ _ rfl w.heap.size [.int .i64 k, .int .i64 k, .slice (some ⟨g1, 0, none⟩) N N] zeroRow 62 rfl rfl R2.out rfl (by kernel_rfl) (mv_ones _ _ _ _) ?_; intro w9 h9 k9 s9; go_frame))
  refine bodyPost_ret (results_mid Tryz.results38 _ _ w.heap.size 0 [.int .i64 k, .int .i64 k, .slice (some ⟨g1, 0, none⟩) N N] _ rfl (range_of_list h9.out) Tryz.underlying62 rfl (by kernel_rfl)) rfl ⟨g1, rfl, ?_, ?_⟩
  · refine (I_2.out.tab.alike (enc_top k)).keep (k9.out.block g1 I_2.out.tab.lt ?_)
    simp
    intro e
    have h1 := R2.out
    have h2 := I_2.out.tab
    unfold ResAt at h1
    unfold Tab at h2
    rw [e, h1] at h2
    injection h2 with h2
    injection h2 with _ h2 _
    exact absurd h2 (by decide)
  · exact below_kept B_2.out k9.out (Nat.le_refl _) B_2.out.size
theorem maker_any (k m n N : Nat) (hk1 : 1 ≤ k) (hn : k + m = n) (hkm : n ≤ 255) (hN : n * k = N) (w : World) :
    Calls Tryz.prog 38 #[.int .i64 k, .int .i64 m] w fun e w' => ∃ g, e = .returned (mv g n k N) ∧ Tab g (encM k) n k w' ∧ Below w.heap.size w w' := by
  by_cases hm : 1 ≤ m
  · exact maker_some k m n N hk1 hm hn hkm hN w
  · obtain rfl : m = 0 := by omega
    obtain rfl : n = k := by omega
    exact maker_none n N hk1 hkm hN w
/-- The first shards, as k of all tell them. -/
@[irreducible] def solT (k s : Nat) (p : Nat → Nat) (f : Nat → ByteArray) (i : Nat) : ByteArray := txt (mm k (invM k (pickM (encM k) p)) (fun j => strAt (f j)) i) s
theorem solT_eq (k s : Nat) (p : Nat → Nat) (f : Nat → ByteArray) (i : Nat) : solT k s p f i = txt (mm k (invM k (pickM (encM k) p)) (fun j => strAt (f j)) i) s := by unfold solT; rfl
theorem solT_size (k s : Nat) (p : Nat → Nat) (f : Nat → ByteArray) (i : Nat) : (solT k s p f i).size = s := by rw [solT_eq, txt_size]
/-- Of shards of one text it is its first ones. -/
theorem solT_of {k s n : Nat} {p : Nat → Nat} {f : Nat → ByteArray} {X : Mat} (hn : n ≤ 256) (hkn : k ≤ n) (hp : ∀ r, r < k → p r < n) (hinj : ∀ r s, r < k → s < k → p r = p s → r = s) (hf : ∀ r, r < k → f r = shT k s X (p r)) {i : Nat} (hi : i < k) : solT k s p f i = txt (X i) s := by
  rw [solT_eq]
  refine txt_congr fun j hj => solve (enc_full k n p hn hkn hp hinj) (fun r hr => ?_) hi
  show strAt (f r) j = mm k (encM k) X (p r) j
  rw [hf r hr, shT_at _ _ hj]
set_option maxRecDepth 20000 in
set_option maxHeartbeats 2000000 in
theorem solved_any (m k n s pb po pc hb ho hc : Nat) (p : Nat → Nat) (f : Nat → ByteArray) (hk1 : 1 ≤ k) (hn : k + m = n) (hkm : n ≤ 255) (hs : s ≤ 1000000) (hf : ∀ j, j < k → (f j).size = s) (hp : ∀ r, r < k → p r < n) (hinj : ∀ r s, r < k → s < k → p r = p s → r = s)
    (w : World) (hi : Ints pb po k (fun j => (p j : Int)) w) (hpl : pb < w.heap.size) (ht : Texts hb ho k f w) (hl : hb < w.heap.size) :
    Calls Tryz.prog 22 #[.int .i64 m, .slice (some ⟨pb, po, none⟩) k pc, .slice (some ⟨hb, ho, none⟩) k hc] w fun e w' => ∃ g, e = .returned (.slice (some ⟨g, 0, none⟩) k k) ∧ ColT g k (solT k s p f) w' ∧ Below w.heap.size w w' := by
  obtain ⟨N, hN⟩ : ∃ N, n * k = N := ⟨_, rfl⟩
  obtain ⟨N2, hN2⟩ : ∃ N, k * k = N := ⟨_, rfl⟩
  have HN := Lib.hid hN
  have HN2 := Lib.hid hN2
  have HS := Lib.hid hn
  have HK := Lib.hid (enc_full k n p (by omega) (by omega) hp hinj)
  have HP := Lib.hid hp
  have HF := Lib.hid hf
  have HI := Lib.hid hi
  have HT := Lib.hid ht
  have hkn : k ≤ n := by omega
  clear hN hN2 hn hp hinj hf hi ht
  go_enter Tryz.func22, Tryz.ntmps22
  go_wp2_with fail
  refine (maker_any k m n N hk1 HS.out hkm HN.out _).mono ?_
  rintro e w1 ⟨g1, rfl, t0, hb1⟩
  have B_1 := Lib.hid hb1
  have M_1 := Lib.hid t0
  clear t0 hb1
  go_wp2_with fail
  refine (tPick g1 n k N pb po k pc N2 (encM k) (fun j => (p j : Int)) p (by omega) (by omega) hk1 (by omega) HN.out hk1 (by omega) HN2.out (fun j hj => ⟨rfl, HP.out j hj⟩) _ M_1.out (HI.out.keep (B_1.out.block pb hpl)) (Nat.lt_of_lt_of_le hpl B_1.out.size)).mono ?_
  rintro e w2 ⟨g2, rfl, t0, hb2⟩
  have B_2 := Lib.hid (B_1.out.trans (hb2.mono B_1.out.size))
  have P_2 := Lib.hid t0
  clear t0 hb2 M_1 B_1
  go_wp2_with (refine wpList_store_whole rfl 62 _ _ rfl w2.heap.size [.int .i64 k, .int .i64 k, .slice (some ⟨g2, 0, none⟩) N2 N2] zeroRow 62 rfl rfl (heap_alloc_new _ _) rfl (by kernel_rfl) (mv_ones _ _ _ _) ?_; intro w3 h3 k3 s3; have hs3 := after_box k3.out; have P_3 := Lib.hid ((BoxT.of h3.out k3.out P_2.out).1); have B_3 := Lib.hid (B_2.out.trans (hs3.mono B_2.out.size)); obtain ⟨c0, c1, c2⟩ := heap_cell0 P_3.out.box; clear B_2 P_2 hs3; go_frame)
  clear h3 k3 s3
  refine (tInvert_ok g2 k N2 _ hk1 (by omega) HN2.out HK.out _ P_3.out.tab).mono ?_
  rintro e w4 ⟨g4, rfl, t0, hb4⟩
  have B_4 := Lib.hid (B_3.out.trans (hb4.mono B_3.out.size))
  have I_4 := Lib.hid t0
  clear t0 hb4 P_3 B_3 c0 c1 c2
  go_wp2_with (refine wpList_store_whole rfl 62 _ _ rfl w4.heap.size [.int .i64 k, .int .i64 k, .slice (some ⟨g4, 0, none⟩) N2 N2] zeroRow 62 rfl rfl (heap_alloc_new _ _) rfl (by kernel_rfl) (mv_ones _ _ _ _) ?_; intro w5 h5 k5 s5; have hs5 := after_box k5.out; have I_5 := Lib.hid ((BoxT.of h5.out k5.out I_4.out).1); have B_5 := Lib.hid (B_4.out.trans (hs5.mono B_4.out.size)); obtain ⟨c0, c1, c2⟩ := heap_cell0 I_5.out.box; clear B_4 I_4 hs5; go_frame)
  clear h5 k5 s5
  refine (tApplyAt g4 k k N2 hb ho hc s _ f hk1 (by omega) hk1 (by omega) HN2.out hs HF.out _ I_5.out.tab (HT.out.keep (B_5.out.block hb hl)) (Nat.lt_of_lt_of_le hl B_5.out.size)).mono ?_
  rintro e w6 ⟨h6, rfl, t0, hb6⟩
  have B_6 := Lib.hid (B_5.out.trans (hb6.mono B_5.out.size))
  have T := Lib.hid t0
  clear t0 hb6 I_5 B_5 c0 c1 c2
  go_wp2_with fail
  go_ret
  refine ⟨h6, rfl, ?_, B_6.out⟩
  rw [show solT k s p f = fun i => txt (mm k (invM k (pickM (encM k) p)) (fun j => strAt (f j)) i) s from funext fun i => solT_eq k s p f i]
  exact T.out
end Go.Proofs.YteanbflbclmeeaaGreat
/-! ERest -/
namespace Go.Proofs.YteanbflbclmeeaaGreat
open Go.RowKit

theorem mayE_yes {k m n L : Nat} (hk1 : 1 ≤ k) (hn : k + m = n) (hkm : n ≤ 255) : mayE k m L = true := by rw [mayE_eq]; exact decide_eq_true ⟨by omega, by omega, by omega, by omega⟩
set_option maxHeartbeats 1000000 in
theorem Size_ok (k L : Nat) (hk1 : 1 ≤ k) (hk2 : k ≤ 255) (hL : (L : Int) ≤ 9223372036854775807) (w : World) : Calls Tryz.prog 14 #[.int .i64 k, .int .i64 L] w fun e w' => e = .returned (.tuple #[.int .i64 (szN k L : Nat), .nilIface]) ∧ Below w.heap.size w w' := by
  have HM : Hid (mayE k 0 L = true) := Lib.hid (mayE_yes (m := 0) hk1 rfl hk2)
  go_enter Tryz.func14, Tryz.ntmps14
  go_wp2_with fail
  refine (mayE_any k 0 L (by omega) _).mono ?_
  rintro e w' ⟨rfl, rfl⟩
  rw [HM.out]
  go_wp2_with fail
  refine (eSz_any k L hk1 hL _).mono ?_
  rintro e w1 ⟨rfl, hb⟩
  have HB := Lib.hid hb
  clear hb
  go_wp2_with fail
  go_ret2
  exact ⟨rfl, HB.out⟩
/-- The shards of a text. -/
theorem cut_all {k s : Nat} {t : ByteArray} (i : Nat) : allT k s (fun i => txt (cutM s (strAt t) i) s) i = shT k s (cutM s (strAt t)) i := by
  rw [allT_sh (fun j _ => txt_size _ _)]
  exact shT_congr (fun a b _ hb => txt_at _ _ _ hb) i
set_option maxHeartbeats 1000000 in
theorem Encode_ok (k m n s N : Nat) (t : ByteArray) (hk1 : 1 ≤ k) (hn : k + m = n) (hkm : n ≤ 255) (hs : szN k t.size = s) (hN : k * s = N) (hNm : N ≤ 1000000) (w : World) :
    Calls Tryz.prog 15 #[.int .i64 k, .int .i64 m, .string t] w fun e w' => ∃ g c, e = .returned (.tuple #[.slice (some ⟨g, 0, none⟩) n c, .nilIface]) ∧ n ≤ c ∧ ColO w.heap.size g n c (shT k s (cutM s (strAt t))) w' ∧ Below w.heap.size w w' := by
  have HM : Hid (mayE k m t.size = true) := Lib.hid (mayE_yes (L := t.size) hk1 hn hkm)
  have HC := Lib.hid (cut_any k s N t hk1 (by omega) hs hN hNm w)
  have HSN : Hid (s ≤ 1000000) := Lib.hid (by
    have : s ≤ k * s := Nat.le_mul_of_pos_left s (by omega)
    omega)
  have HN := Lib.hid hn
  have hk2 : k ≤ 255 := by omega
  clear hs hN hn
  go_enter Tryz.func15, Tryz.ntmps15
  go_wp2_with fail
  refine (mayE_any k m t.size (by omega) _).mono ?_
  rintro e w' ⟨rfl, rfl⟩
  rw [HM.out]
  go_wp2_with fail
  refine HC.out.mono ?_
  rintro e w1 ⟨g, rfl, hT, hb⟩
  have HB := Lib.hid hb
  have HT := Lib.hid hT
  clear hb hT HC
  go_wp2_with fail
  refine (whole_any m k n s g 0 k _ hk1 HN.out hkm HSN.out (fun j _ => txt_size _ _) _ HT.out.t HT.out.lt).mono ?_
  rintro e w2 ⟨g2, c, rfl, hcc, hT2, hb2⟩
  have HB2 := Lib.hid (HB.out.trans (hb2.mono HB.out.size))
  have HT2 : Hid (ColO w.heap.size g2 n c (allT k s fun i => txt (cutM s (strAt t) i) s) w2) := Lib.hid ⟨hT2.t, hT2.lt, own_lower hT2.own HB.out.size, Nat.le_trans HB.out.size hT2.lo⟩
  clear hb2 hT2
  go_wp2_with fail
  go_ret2
  exact ⟨g2, c, rfl, hcc, HT2.out.congr (funext fun i => cut_all i), HB2.out⟩
theorem own_shape {B : Nat} {v : Value} {l : List Nat} {w : World} (h : Own B v l w) : ∃ a c, v = .slice a l.length c ∧ (0 < l.length → ∃ g, a = some ⟨g, 0, none⟩ ∧ l.length ≤ c ∧ g < w.heap.size ∧ Ints g 0 l.length (fun j => ((l.getD j 0 : Nat) : Int)) w) := by
  by_cases h0 : 0 < l.length
  · obtain ⟨g, c, rfl, hc, _, hl⟩ := h.form h0
    exact ⟨_, _, rfl, fun _ => ⟨g, rfl, hc, hl, h.ints⟩⟩
  · rcases h.2 with ⟨rfl, e⟩ | ⟨g, cap, cur, rfl, _, _, _⟩
    · have hz : l.length = 0 := by omega
      rw [hz]; exact ⟨none, 0, rfl, fun h => by omega⟩
    · exact ⟨_, _, rfl, fun h => absurd h h0⟩
theorem ownT_shape {B : Nat} {v : Value} {l : List ByteArray} {w : World} (h : OwnT B v l w) : ∃ a c, v = .slice a l.length c ∧ (0 < l.length → ∃ g, a = some ⟨g, 0, none⟩ ∧ l.length ≤ c ∧ g < w.heap.size ∧ Texts g 0 l.length (fun j => l.getD j .empty) w) := by
  by_cases h0 : 0 < l.length
  · obtain ⟨g, c, rfl, hc, _, hl⟩ := h.form h0
    exact ⟨_, _, rfl, fun _ => ⟨g, rfl, hc, hl, h.texts⟩⟩
  · rcases h.2 with ⟨rfl, e⟩ | ⟨g, cap, cur, rfl, _, _, _⟩
    · have hz : l.length = 0 := by omega
      rw [hz]; exact ⟨none, 0, rfl, fun h => by omega⟩
    · exact ⟨_, _, rfl, fun h => absurd h h0⟩
/-- What 'there' tells, as slices. -/
theorem there_shape (n cap R : Nat) (a0 : Option Addr) (has : Nat → Bool) (dat : Nat → ByteArray) (p : Nat → Nat) (hn : n ≤ 1000) (hR : (hereL has n).length = R) (hp : p = fun r => (hereL has n).getD r 0) (w : World) (h : PX a0 n has dat w) :
    Calls Tryz.prog 18 #[.slice a0 n cap] w fun e w' => ∃ a1 c1 a2 c2, e = .returned (.tuple #[.slice a1 R c1, .slice a2 R c2]) ∧ (0 < R → ∃ g1 g2, a1 = some ⟨g1, 0, none⟩ ∧ a2 = some ⟨g2, 0, none⟩ ∧ R ≤ c1 ∧ R ≤ c2 ∧ g1 < w'.heap.size ∧ g2 < w'.heap.size ∧ Ints g1 0 R (fun r => (p r : Int)) w' ∧ Texts g2 0 R (fun r => dat (p r)) w') ∧ Below w.heap.size w w' := by
  refine (there_any n cap a0 has dat hn w h).mono ?_
  rintro e w' ⟨v1, v2, rfl, h1, h2, hb⟩
  obtain ⟨a1, c1, rfl, f1⟩ := own_shape h1
  obtain ⟨a2, c2, rfl, f2⟩ := ownT_shape h2
  rw [List.length_map] at f2 ⊢
  rw [hR] at f1 f2 ⊢
  refine ⟨a1, c1, a2, c2, rfl, fun h0 => ?_, hb⟩
  obtain ⟨g1, rfl, e1, l1, i1⟩ := f1 h0
  obtain ⟨g2, rfl, e2, l2, i2⟩ := f2 h0
  refine ⟨g1, g2, rfl, rfl, e1, e2, l1, l2, by rw [hp]; exact i1, fun r hr => ?_⟩
  rw [i2 r hr]
  show some (Value.string (((hereL has n).map dat).getD r .empty)) = some (Value.string (dat (p r)))
  rw [hp, List.getD, List.getElem?_map, List.getElem?_eq_getElem (by omega)]
  show _ = some (Value.string (dat ((hereL has n).getD r 0)))
  rw [List.getD, List.getElem?_eq_getElem (by omega)]; rfl
set_option maxRecDepth 20000 in
set_option maxHeartbeats 2000000 in
theorem Restore_ok (k m n s L cap R : Nat) (a0 : Option Addr) (has : Nat → Bool) (dat : Nat → ByteArray) (p : Nat → Nat) (hk1 : 1 ≤ k) (hn : k + m = n) (hkm : n ≤ 255) (hL : (L : Int) ≤ 9223372036854775807) (hs : szN k L = s) (hsm : s ≤ 1000000) (hR : (hereL has n).length = R) (hkR : k ≤ R)
    (hp : p = fun r => (hereL has n).getD r 0) (hsz : ∀ j, j < n → has j = true → (dat j).size = s) (w : World) (h : PX a0 n has dat w) :
    Calls Tryz.prog 6 #[.int .i64 k, .int .i64 m, .int .i64 L, .slice a0 n cap] w fun e w' => ∃ g c, e = .returned (.tuple #[.slice (some ⟨g, 0, none⟩) n c, .nilIface]) ∧ n ≤ c ∧ ColT g n (allT k s (solT k s p fun r => dat (p r))) w' ∧ Below w.heap.size w w' := by
  have HM : Hid (mayE k m L = true) := Lib.hid (mayE_yes hk1 hn hkm)
  have HTH := Lib.hid (there_shape n cap R a0 has dat p (by omega) hR hp w h)
  have HZ : Hid (∀ v, Calls Tryz.prog 20 #[.int .i64 k, .int .i64 L] v fun e w' => e = .returned (.int .i64 s) ∧ Below v.heap.size v w') := Lib.hid (by intro v; rw [← hs]; exact eSz_any k L hk1 hL v)
  have HPN : Hid (∀ r, r < R → p r < n) := Lib.hid (fun r hr => by rw [hp]; exact (hereL_at (by omega)).1)
  have HPS : Hid (∀ r, r < R → (dat (p r)).size = s) := Lib.hid (fun r hr => by
    have := hereL_at (has := has) (n := n) (r := r) (by omega)
    rw [hp]; exact hsz _ this.1 this.2)
  have HPI : Hid (∀ r r', r < R → r' < R → p r = p r' → r = r') := Lib.hid (fun r r' hr hr' e => by rw [hp] at e; exact hereL_inj (by omega) (by omega) e)
  have HRN : R ≤ n := by rw [← hR]; exact hereL_le has n
  have HN := Lib.hid hn
  have hsum : wrap64 ((k : Int) + (m : Int)) = (n : Int) := by unfold wrap64; omega
  have hlt : ¬ (R : Int) < (k : Int) := by omega
  clear hn hs hR hp hsz h
  go_enter Tryz.func6, Tryz.ntmps6
  go_wp2_with fail
  refine (mayE_any k m L (by omega) _).mono ?_
  rintro e w' ⟨rfl, rfl⟩
  rw [HM.out]
  go_wp2_with fail
  refine HTH.out.mono ?_
  rintro e w1 ⟨a1, c1, a2, c2, rfl, hf, hb1⟩
  obtain ⟨g1, g2, rfl, rfl, hc1, hc2, hl1, hl2, hi1, ht2⟩ := hf (by omega)
  have HB1 := Lib.hid hb1
  have HI1 := Lib.hid hi1
  have HT2 := Lib.hid ht2
  clear hf hb1 hi1 ht2 HTH
  go_wp2_with fail
  refine (HZ.out _).mono ?_
  rintro e w2 ⟨rfl, hb2⟩
  have HB2 := Lib.hid (HB1.out.trans (hb2.mono HB1.out.size))
  have HI2 := Lib.hid (HI1.out.keep (hb2.block g1 hl1))
  have HT2' := Lib.hid (HT2.out.keep (hb2.block g2 hl2))
  have hl1' := Nat.lt_of_lt_of_le hl1 hb2.size
  have hl2' := Nat.lt_of_lt_of_le hl2 hb2.size
  clear hb2 HB1 HI1 HT2 HZ hl1 hl2
  go_wp2_with fail
  refine (allHave_yes s R c2 (some ⟨g2, 0, none⟩) (fun r => dat (p r)) (by omega) HPS.out _ (fun _ => ⟨g2, 0, rfl, hl2', HT2'.out⟩)).mono ?_
  rintro e w' ⟨rfl, rfl⟩
  go_wp2_with fail
  obtain ⟨S0, hS0⟩ : ∃ S0, S0 = w2 := ⟨_, rfl⟩
  have HBS : Hid (Below w.heap.size w S0) := Lib.hid (by rw [hS0]; exact HB2.out)
  have HSO : Hid (∀ v, Below S0.heap.size S0 v → Calls Tryz.prog 22 #[.int .i64 m, .slice (some ⟨g1, 0, none⟩) k c1, .slice (some ⟨g2, 0, none⟩) k c2] v fun e w' => ∃ g, e = .returned (.slice (some ⟨g, 0, none⟩) k k) ∧ ColT g k (solT k s p fun r => dat (p r)) w' ∧ Below S0.heap.size S0 w') := Lib.hid (by
    intro v hv
    rw [← hS0] at HI2 HT2' hl1' hl2'
    refine (solved_any m k n s g1 0 c1 g2 0 c2 p (fun r => dat (p r)) hk1 HN.out hkm hsm (fun j hj => HPS.out j (by omega)) (fun r hr => HPN.out r (by omega)) (fun r r' hr hr' e => HPI.out r r' (by omega) (by omega) e) v (fun j hj => (World.cell?_of_block (a := ⟨g1, 0 + j, none⟩) (hv.block g1 hl1')).trans (HI2.out j (by omega))) (Nat.lt_of_lt_of_le hl1' hv.size) (fun j hj => (World.cell?_of_block (a := ⟨g2, 0 + j, none⟩) (hv.block g2 hl2')).trans (HT2'.out j (by omega))) (Nat.lt_of_lt_of_le hl2' hv.size)).mono ?_
    rintro e w' ⟨g, rfl, hT, hb⟩
    exact ⟨g, rfl, hT, hv.trans (hb.mono hv.size)⟩)
  have HWH : Hid (∀ v g, Below S0.heap.size S0 v → ColT g k (solT k s p fun r => dat (p r)) v → Calls Tryz.prog 21 #[.int .i64 m, .slice (some ⟨g, 0, none⟩) k k] v fun e w' => ∃ g c, e = .returned (.slice (some ⟨g, 0, none⟩) n c) ∧ n ≤ c ∧ ColT g n (allT k s (solT k s p fun r => dat (p r))) w' ∧ Below S0.heap.size S0 w') := Lib.hid (by
    intro v g hv hT
    refine (whole_any m k n s g 0 k _ hk1 HN.out hkm hsm (fun j _ => solT_size _ _ _ _ _) v hT.t hT.lt).mono ?_
    rintro e w' ⟨g', c, rfl, hcc, hT', hb⟩
    exact ⟨g', c, rfl, hcc, hT'.col, hv.trans (hb.mono hv.size)⟩)
  have HBD : Hid (Below S0.heap.size S0 S0.drew) := Lib.hid (Below.refl _ _).drew
  have hkc1 : k ≤ c1 := by omega
  have hkc2 : k ≤ c2 := by omega
  rw [← hS0]
  clear hS0 HB2 HI2 HT2' hl1' hl2' HM HPN HPS HPI
  go_region_with (first | (go_at_call 22; refine (HSO.out _ HBD.out).mono ?_; rintro e w3 ⟨g3, rfl, hT3, hb3⟩; have HT3 := Lib.hid hT3; have HB3 := Lib.hid hb3; clear hT3 hb3) | (go_at_call 21; refine (HWH.out _ g3 HB3.out HT3.out).mono ?_; rintro e w4 ⟨g4, c4, rfl, hcc, hT4, hb4⟩; have HT4 := Lib.hid hT4; have HB4 := Lib.hid hb4; clear hT4 hb4))
  all_goals
    go_wp2_with fail
    go_ret2
    exact ⟨g4, c4, rfl, hcc, HT4.out, HBS.out.trans (HB4.out.mono HBS.out.size)⟩
set_option maxRecDepth 20000 in
set_option maxHeartbeats 2000000 in
theorem Restore_few (k m n s L cap R : Nat) (a0 : Option Addr) (has : Nat → Bool) (dat : Nat → ByteArray) (hk1 : 1 ≤ k) (hn : k + m = n) (hkm : n ≤ 255) (hL : (L : Int) ≤ 9223372036854775807) (hs : szN k L = s) (hR : (hereL has n).length = R) (hkR : R < k)
    (hsz : ∀ j, j < n → has j = true → (dat j).size = s) (w : World) (h : PX a0 n has dat w) :
    Calls Tryz.prog 6 #[.int .i64 k, .int .i64 m, .int .i64 L, .slice a0 n cap] w fun e w' => ∃ g, w.heap.size ≤ g ∧ e = .returned (.tuple #[.slice none 0 0, faultV g]) ∧ FaultAt g 17 0 w' ∧ Below w.heap.size w w' := by
  have HM : Hid (mayE k m L = true) := Lib.hid (mayE_yes hk1 hn hkm)
  obtain ⟨p, hp⟩ : ∃ p : Nat → Nat, p = fun r => (hereL has n).getD r 0 := ⟨_, rfl⟩
  have HTH := Lib.hid (there_shape n cap R a0 has dat p (by omega) hR hp w h)
  have HZ : Hid (∀ v, Calls Tryz.prog 20 #[.int .i64 k, .int .i64 L] v fun e w' => e = .returned (.int .i64 s) ∧ Below v.heap.size v w') := Lib.hid (by intro v; rw [← hs]; exact eSz_any k L hk1 hL v)
  have HPS : Hid (∀ r, r < R → (dat (p r)).size = s) := Lib.hid (fun r hr => by
    have := hereL_at (has := has) (n := n) (r := r) (by omega)
    rw [hp]; exact hsz _ this.1 this.2)
  have HRN : R ≤ n := by rw [← hR]; exact hereL_le has n
  have hsum : wrap64 ((k : Int) + (m : Int)) = (n : Int) := by unfold wrap64; omega
  have hlt : (R : Int) < (k : Int) := by omega
  have hk2 : k ≤ 255 := by omega
  clear hn hs hR hp hsz h
  go_enter Tryz.func6, Tryz.ntmps6
  go_wp2_with fail
  refine (mayE_any k m L (by omega) _).mono ?_
  rintro e w' ⟨rfl, rfl⟩
  rw [HM.out]
  go_wp2_with fail
  refine HTH.out.mono ?_
  rintro e w1 ⟨a1, c1, a2, c2, rfl, hf, hb1⟩
  have HB1 := Lib.hid hb1
  have HTX : Hid (TX a2 R (fun r => dat (p r)) w1) := Lib.hid (fun h0 => by
    obtain ⟨g1, g2, _, e2, _, _, _, hl2, _, ht2⟩ := hf h0
    exact ⟨g2, 0, e2, hl2, ht2⟩)
  clear hf hb1 HTH
  go_wp2_with fail
  refine (HZ.out _).mono ?_
  rintro e w2 ⟨rfl, hb2⟩
  have HB2 := Lib.hid (HB1.out.trans (hb2.mono HB1.out.size))
  have HTX2 := Lib.hid (HTX.out.below hb2)
  clear hb2 HB1 HTX HZ
  go_wp2_with fail
  refine (allHave_yes s R c2 a2 (fun r => dat (p r)) (by omega) HPS.out _ HTX2.out).mono ?_
  rintro e w' ⟨rfl, rfl⟩
  go_wp2_with fail
  refine (eFault_any 17 _).mono ?_
  rintro e w3 ⟨rfl, hF, hb3⟩
  have HF := Lib.hid hF
  have HB3 := Lib.hid (HB2.out.trans (hb3.mono HB2.out.size))
  have hg := HB2.out.size
  clear hF hb3
  go_wp2_with fail
  go_ret2
  exact ⟨_, hg, rfl, HF.out, HB3.out⟩
end Go.Proofs.YteanbflbclmeeaaGreat
