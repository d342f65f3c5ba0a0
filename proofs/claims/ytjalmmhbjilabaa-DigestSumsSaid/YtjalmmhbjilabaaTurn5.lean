/- The walks of MD5's block: the constants, the turn. -/
import Derived.Test.YtjalmmhbjilabaaTurn2
namespace Go.Proofs.Ytjalmmhbjilabaa
open Go.RowKit

def intv (n : Nat) : Value := .int .i64 (n : Int)
def nils (n : Nat) : List Value := List.replicate n (.int .i64 0)
theorem length_nils (n : Nat) : (nils n).length = n := by simp [nils]
theorem intv_ones (ws : List Nat) : ∀ v ∈ ws.map intv, v.oneCell' = true := fun v hv => by obtain ⟨x, _, rfl⟩ := List.mem_map.1 hv; rfl
theorem alloc4 (w : World) : (Instr.alloc 45 true (.tuple #[])).run Try.prog w = .ok (.pointer (some ⟨w.heap.size, 0, none⟩)) (w.alloc (.cells (zeros 4).toArray 45)) := by kernel_rfl
theorem alloc4x4 (w : World) : (Instr.alloc 82 true (.tuple #[])).run Try.prog w = .ok (.pointer (some ⟨w.heap.size, 0, none⟩)) (w.alloc (.cells (nils 16).toArray 82)) := by kernel_rfl

theorem addends5_any (w : World) : Calls Try.prog 49 #[] w fun e w' => e = .returned (.agg (Dig.k5.map u32v).toArray) ∧ Below w.heap.size w w' := by
  go_enter Try.func49, Try.ntmps49
  go_wp2_with (first | (refine wpList_alloc rfl 67 rfl (zeros 64) alloc64 ?_) | (refine wpList_build rfl 67 _ rfl (Dig.k5.map u32v) (by kernel_rfl) ?_) | (refine wpList_store_new rfl 67 _ _ rfl w.heap.size (Dig.k5.map u32v) (zeros 64) 67 rfl rfl (heap_alloc_new _ _) (by simp [length_zeros, Dig.length_k5]) (by kernel_rfl) (u32_ones _) ?_))
  refine bodyPost_ret (v := .agg (Dig.k5.map u32v).toArray) ?_ rfl ⟨rfl, below_setCells ((Below.refl _ _).alloc (Nat.le_refl _) _) (Nat.le_refl _) _ _⟩
  exact results_mid Try.results49 _ _ w.heap.size 0 _ _ rfl (World.rangeAt_setCells_same _ _ _ _ (there_of_list (heap_alloc_new _ _) (by simp [length_zeros, Dig.length_k5]))) Try.underlying67 rfl (by kernel_rfl)
theorem start5_any (w : World) : Calls Try.prog 29 #[] w fun e w' => e = .returned (.agg (Dig.h5.map u32v).toArray) ∧ Below w.heap.size w w' := by
  go_enter Try.func29, Try.ntmps29
  go_wp2_with (first | (refine wpList_alloc rfl 45 rfl (zeros 4) alloc4 ?_) | (refine wpList_build rfl 45 _ rfl (Dig.h5.map u32v) (by kernel_rfl) ?_) | (refine wpList_store_new rfl 45 _ _ rfl w.heap.size (Dig.h5.map u32v) (zeros 4) 45 rfl rfl (heap_alloc_new _ _) (by simp [length_zeros, Dig.length_h5]) (by kernel_rfl) (u32_ones _) ?_))
  refine bodyPost_ret (v := .agg (Dig.h5.map u32v).toArray) ?_ rfl ⟨rfl, below_setCells ((Below.refl _ _).alloc (Nat.le_refl _) _) (Nat.le_refl _) _ _⟩
  exact results_mid Try.results29 _ _ w.heap.size 0 _ _ rfl (World.rangeAt_setCells_same _ _ _ _ (there_of_list (heap_alloc_new _ _) (by simp [length_zeros, Dig.length_h5]))) Try.underlying45 rfl (by kernel_rfl)
theorem turns5_any (w : World) : Calls Try.prog 50 #[] w fun e w' => e = .returned (.agg (Dig.turns5.map intv).toArray) ∧ Below w.heap.size w w' := by
  go_enter Try.func50, Try.ntmps50
  go_wp2_with (first | (refine wpList_alloc rfl 82 rfl (nils 16) alloc4x4 ?_; go_frame) | (refine wpList_build rfl 82 _ rfl (Dig.turns5.map intv) (by kernel_rfl) ?_; go_frame) | (refine wpList_store_new rfl 82 _ _ rfl w.heap.size (Dig.turns5.map intv) (nils 16) 82 rfl rfl (heap_alloc_new _ _) (by simp [length_nils, Dig.length_turns5]) (by kernel_rfl) (intv_ones _) ?_))
  refine bodyPost_ret (v := .agg (Dig.turns5.map intv).toArray) ?_ rfl ⟨rfl, below_setCells ((Below.refl _ _).alloc (Nat.le_refl _) _) (Nat.le_refl _) _ _⟩
  exact results_mid Try.results50 _ _ w.heap.size 0 _ _ rfl (World.rangeAt_setCells_same _ _ _ _ (there_of_list (heap_alloc_new _ _) (by simp [length_nils, Dig.length_turns5]))) Try.underlying82 rfl (by kernel_rfl)

/-- The four slots hold what i rounds have made of the words. -/
def RoundsAt5 (ws : List UInt32) (s : Dig.Four) (k : Nat) (a b c d : Value) : Prop :=
  ∃ r : Dig.Four, r = Dig.roundsTo5 ws s k ∧ a = .int .u32 r.a.toNat ∧ b = .int .u32 r.b.toNat ∧ c = .int .u32 r.c.toNat ∧ d = .int .u32 r.d.toNat
theorem rounds_start5 (ws : List UInt32) (s : Dig.Four) : RoundsAt5 ws s 0 (.int .u32 s.a.toNat) (.int .u32 s.b.toNat) (.int .u32 s.c.toNat) (.int .u32 s.d.toNat) :=
  ⟨s, (Dig.roundsTo5_zero ws s).symm, rfl, rfl, rfl, rfl⟩
theorem rounds_step5 {ws : List UInt32} {s r : Dig.Four} {i q n j : Nat} {x y : UInt32} {a b c d : Value} (hr : r = Dig.roundsTo5 ws s i) (hq : i / 16 = q) (hj : Dig.word5 i = j) (hn : Dig.turns5.getD (q * 4 + i % 4) 0 = n) (hx : x = Dig.k5.getD i 0) (hy : y = ws.getD j 0)
    (ha : a = .int .u32 r.d.toNat) (hb : b = .int .u32 (Dig.ad r.b (Dig.rotl (Dig.ad (Dig.mix5 q r) (Dig.ad (Dig.ad r.a x) y)) n)).toNat) (hc : c = .int .u32 r.b.toNat) (hd : d = .int .u32 r.c.toNat) :
    RoundsAt5 ws s (i + 1) a b c d := by
  subst hq hj hn hx hy hr ha hb hc hd
  exact ⟨Dig.round5 (i / 16) (Dig.turns5.getD (i / 16 * 4 + i % 4) 0) (Dig.k5.getD i 0) (ws.getD (Dig.word5 i) 0) (Dig.roundsTo5 ws s i), (Dig.roundsTo5_succ ws s i).symm, rfl, rfl, rfl, rfl⟩

theorem rn_nat {n : Nat} (h : n < 32) : rn (n : Int) = n := by unfold rn; omega

attribute [local go_sem] go_add go_add' go_xor go_and go_or go_not go_not' u32_signed
set_option maxRecDepth 100000 in
set_option maxHeartbeats 2000000 in
theorem turn5_any (g o gb ob : Nat) (S : List UInt32) (bs : List UInt8) (C Cb : List Value) (T Tb : TypeId) (frb : Nat × Nat) (w : World)
    (hg : w.heap[g]? = some (.cells C.toArray T (0, 0))) (hlen : S.length = 4) (hS : ∀ i, i < 4 → C[o + i]? = some (u32v (S.getD i 0)))
    (hb : w.heap[gb]? = some (.cells Cb.toArray Tb frb)) (hC : ∀ i, i < 64 → Cb[ob + i]? = some (u8v (bs.getD i 0))) :
    Calls Try.prog 33 #[.pointer (some ⟨g, o, none⟩), .pointer (some ⟨gb, ob, none⟩)] w fun e w' =>
      e = .returned (.tuple #[]) ∧ w'.heap[g]? = some (.cells (laid C o ((Dig.turn5 S bs).map u32v)).toArray T (0, 0)) ∧ Kept w.heap.size [g] w w' := by
  have hgB := lt_of_heap hg
  have hbB := lt_of_heap hb
  go_enter Try.func33, Try.ntmps33
  go_wp2_with fail
  refine (addends5_any _).mono ?_
  rintro e w1 ⟨rfl, hb1⟩
  go_wp2_with fail
  refine (turns5_any _).mono ?_
  rintro e w1' ⟨rfl, hb1'⟩
  go_wp2_with fail
  refine (words_any gb ob true bs Cb Tb frb _ (by rw [hb1'.block _ (by have := hb1.size; omega), hb1.block _ hbB]; exact hb) hC).mono ?_
  rintro e w2 ⟨rfl, hb2⟩
  have hK : (Dig.k5.map u32v).length = 64 := by rw [List.length_map, Dig.length_k5]
  have hM : (Dig.turns5.map intv).length = 16 := by rw [List.length_map, Dig.length_turns5]
  have hW : ((Dig.words true bs).map u32v).length = 16 := by rw [List.length_map, Dig.length_words]
  obtain ⟨wa, hwa⟩ : ∃ wa, wa = ((w2.alloc (.cells (zeros 64).toArray 67)).alloc (.cells (nils 16).toArray 82)).alloc (.cells (zeros 16).toArray 84) := ⟨_, rfl⟩
  have p0 : wa.heap[w2.heap.size]? = some (.cells (zeros 64).toArray 67 (0, 0)) := by
    rw [hwa, heap_alloc_old _ _ (by simp; omega)]; exact heap_alloc2_old _ _ _
  have p1 : wa.heap[w2.heap.size + 1]? = some (.cells (nils 16).toArray 82 (0, 0)) := by
    rw [hwa, heap_alloc_old _ _ (by simp)]; exact heap_alloc2_new _ _ _
  have p2 : wa.heap[w2.heap.size + 2]? = some (.cells (zeros 16).toArray 84 (0, 0)) := by
    rw [hwa]
    have := heap_alloc_new ((w2.alloc (.cells (zeros 64).toArray 67)).alloc (.cells (nils 16).toArray 82)) (.cells (zeros 16).toArray 84)
    simpa using this
  have P0 := Lib.hid p0
  have P1 := Lib.hid (fun vs => (show (wa.setCells w2.heap.size 0 vs).heap[w2.heap.size + 1]? = some (.cells (nils 16).toArray 82 (0, 0)) by rw [setCells_other (by omega)]; exact p1))
  have P2 := Lib.hid (fun vs us => (show ((wa.setCells w2.heap.size 0 vs).setCells (w2.heap.size + 1) 0 us).heap[w2.heap.size + 2]? = some (.cells (zeros 16).toArray 84 (0, 0)) by rw [setCells_other (by omega), setCells_other (by omega)]; exact p2))
  have HA := Lib.hid hwa
  clear p0 p1 p2 hwa
  go_wp2_with (first | (refine wpList_alloc rfl 67 rfl (zeros 64) alloc64 ?_; go_frame; (try simp only [World.size_alloc])) | (refine wpList_alloc rfl 82 rfl (nils 16) alloc4x4 ?_; go_frame; (try simp only [World.size_alloc])) | (refine wpList_alloc rfl 84 rfl (zeros 16) alloc16 ?_; go_frame; (try simp only [World.size_alloc]); rw [← HA.out]) | (refine wpList_store_new rfl 67 _ _ rfl w2.heap.size (Dig.k5.map u32v) (zeros 64) 67 rfl rfl P0.out (by rw [hK, length_zeros]) (by rw [hK]; kernel_rfl) (u32_ones _) ?_; go_frame) | (refine wpList_store_new rfl 82 _ _ rfl (w2.heap.size + 1) (Dig.turns5.map intv) (nils 16) 82 rfl rfl (P1.out _) (by rw [hM, length_nils]) (by rw [hM]; kernel_rfl) (intv_ones _) ?_; go_frame) | (refine wpList_store_new rfl 84 _ _ rfl (w2.heap.size + 2) ((Dig.words true bs).map u32v) (zeros 16) 84 rfl rfl (P2.out _ _) (by rw [hW, length_zeros]) (by rw [hW]; kernel_rfl) (u32_ones _) ?_; go_frame) | fail)
  obtain ⟨w3, hw3⟩ : ∃ w3, w3 = ((wa.setCells w2.heap.size 0 (Dig.k5.map u32v)).setCells (w2.heap.size + 1) 0 (Dig.turns5.map intv)).setCells (w2.heap.size + 2) 0 ((Dig.words true bs).map u32v) := ⟨_, rfl⟩
  rw [← hw3]
  have hs1 := hb1.size
  have hs1' := hb1'.size
  have hs2 := hb2.size
  have hB2 : Below w.heap.size w w2 := hb1.trans ((hb1'.mono hs1).trans (hb2.mono (Nat.le_trans hs1 hs1')))
  have hK3 : w3.heap[w2.heap.size]? = some (.cells (Dig.k5.map u32v).toArray 67 (0, 0)) := by
    rw [hw3, setCells_other (by omega), setCells_other (by omega), setCells_list _ _ _ _ P0.out, laid_whole _ _ (by rw [hK, length_zeros])]
  have hM3 : w3.heap[w2.heap.size + 1]? = some (.cells (Dig.turns5.map intv).toArray 82 (0, 0)) := by
    rw [hw3, setCells_other (by omega), setCells_list _ _ _ _ (P1.out _), laid_whole _ _ (by rw [hM, length_nils])]
  have hW3 : w3.heap[w2.heap.size + 1 + 1]? = some (.cells ((Dig.words true bs).map u32v).toArray 84 (0, 0)) := by
    rw [hw3, setCells_list _ _ _ _ (P2.out _ _), laid_whole _ _ (by rw [hW, length_zeros])]
  have hB3 : Below w.heap.size w w3 := by
    rw [hw3]; refine below_setCells (below_setCells (below_setCells ?_ (by omega) _ _) (by omega) _ _) (by omega) _ _
    rw [HA.out]; exact ((hB2.alloc (by omega) _).alloc (by simp; omega) _).alloc (by simp; omega) _
  have hs3 : w2.heap.size + 1 + 1 < w3.heap.size := lt_of_heap hW3
  have hcell : ∀ i, i < 4 → w3.cell? ⟨g, o + i, none⟩ = some (u32v (S.getD i 0)) := fun i hi => by
    rw [hB3.cell (p := ⟨g, o + i, none⟩) hgB, cell_of_list hg, hS i hi]
  obtain ⟨st, hst⟩ : ∃ st, st = Dig.Four.of S := ⟨_, rfl⟩
  have c0 : w3.cell? ⟨g, o, none⟩ = some (.int .u32 st.a.toNat) := by rw [hst]; exact hcell 0 (by omega)
  have c1 : w3.cell? ⟨g, o + 1, none⟩ = some (.int .u32 st.b.toNat) := by rw [hst]; exact hcell 1 (by omega)
  have c2 : w3.cell? ⟨g, o + 2, none⟩ = some (.int .u32 st.c.toNat) := by rw [hst]; exact hcell 2 (by omega)
  have c3 : w3.cell? ⟨g, o + 3, none⟩ = some (.int .u32 st.d.toNat) := by rw [hst]; exact hcell 3 (by omega)
  have Hst := Lib.hid hst
  have Hg := Lib.hid hg
  have HB3 := Lib.hid hB3
  have HK3 := Lib.hid hK3
  have HM3 := Lib.hid hM3
  have HW3 := Lib.hid hW3
  have HS := Lib.hid hS
  have HL := Lib.hid hlen
  clear hst hcell hw3 hB2 hM hW hb1 hb1' hb2 hs1 hs1' hg hb hC hB3 hK3 hM3 hW3 hS hlen HA P0 P1 P2
  go_quiet (fail)
  go_wp2_with (refine wpList_load_mid rfl 67 _ rfl _ _ rfl _ _ (range_of_list (by rw [World.heap_drewN]; exact HK3.out)) Try.underlying67 rfl (by rw [hK]; kernel_rfl) ?_; go_frame)
  obtain ⟨w4, hw4⟩ : ∃ w4, w4 = w3.drewN nq := ⟨_, rfl⟩
  rw [← hw4]
  have hB4 : Below w.heap.size w w4 := by rw [hw4]; exact below_drewN HB3.out nq
  have hM4 : w4.heap[w2.heap.size + 1]? = some (.cells (Dig.turns5.map intv).toArray 82 (0, 0)) := by rw [hw4]; exact HM3.out
  have hW4 : w4.heap[w2.heap.size + 1 + 1]? = some (.cells ((Dig.words true bs).map u32v).toArray 84 (0, 0)) := by rw [hw4]; exact HW3.out
  clear hw4 HB3 HK3 HM3 HW3 c0 c1 c2 c3 hs3 hK
  go_loopw [38, 7, 8, 9, 10] (fun i a b c d wr => ∃ k : Nat, k ≤ 64 ∧ i = .int .i64 k ∧ RoundsAt5 (Dig.words true bs) st k a b c d ∧
    wr.heap[w2.heap.size + 1]? = some (.cells (Dig.turns5.map intv).toArray 82 (0, 0)) ∧ wr.heap[w2.heap.size + 1 + 1]? = some (.cells ((Dig.words true bs).map u32v).toArray 84 (0, 0)) ∧ Below w.heap.size w wr) (fun i _ _ _ _ _ => 64 - (intOf i).toNat)
  case atStart => exact ⟨0, by omega, rfl, rounds_start5 _ _, hM4, hW4, hB4⟩
  case round =>
    clear hM4 hW4 hB4
    obtain ⟨k, hk, rfl, hR, hM, hW, hB⟩ := hrel
    obtain ⟨r, hr, rfl, rfl, rfl, rfl⟩ := hR
    by_cases hlt : k < 64
    · have cK := getD_list Dig.length_k5 hlt
      have cT : wr.cell? ⟨w2.heap.size + 1, k / 16 * 4 + k % 4, none⟩ = some (intv (Dig.turns5.getD (k / 16 * 4 + k % 4) 0)) := by
        rw [cell_of_list hM, List.getElem?_map, List.getD, List.getElem?_eq_getElem (by rw [Dig.length_turns5]; omega)]; rfl
      have hnl := Dig.turns5_lt (k / 16 * 4 + k % 4) (by omega)
      obtain ⟨n, hn⟩ : ∃ n, n = Dig.turns5.getD (k / 16 * 4 + k % 4) 0 := ⟨_, rfl⟩
      rw [← hn] at cT hnl
      obtain ⟨x1, hx1⟩ : ∃ x, x = Dig.k5.getD k 0 := ⟨_, rfl⟩
      rw [← hx1] at cK
      unfold intv at cT
      have H1 := Lib.hid hx1
      have CK := Lib.hid cK
      have HN := Lib.hid (rn_nat hnl)
      have HM := Lib.hid hM
      have HR := Lib.hid hr
      have HB := Lib.hid hB
      have hn' := Lib.hid hn
      clear hx1 hM hr hB cK hn
      by_cases h16 : k < 16
      · have HT := Lib.hid (show Dig.turns5.getD (0 * 4 + k % 4) 0 = n by rw [hn'.out, show k / 16 = 0 from by omega])
        have cW := getD_cell (Dig.length_words true bs) (i := k % 16) (by omega) hW
        obtain ⟨x2, hx2⟩ : ∃ x, x = (Dig.words true bs).getD (k % 16) 0 := ⟨_, rfl⟩
        rw [← hx2] at cW
        unfold u32v at cW
        have H2 := Lib.hid hx2
        have HW := Lib.hid hW
        have HJ := Lib.hid (show k / 16 = 0 ∧ Dig.word5 k = k % 16 from ⟨by omega, Dig.word5_0 (by omega)⟩)
        clear hx2 hW
        have e0 : ((k : Int) / 16 == 0) = true := by rw [beq_iff_eq]; omega
        go_wp2_with (first | (go_at_call 48; refine (rot_lit _ _ _).mono ?_; rintro e w' ⟨rfl, rfl⟩) | (refine wpList_index_agg rfl 67 _ _ rfl 40 64 _ k (.int .u32 x1.toNat) _ rfl rfl Try.underlying67 hlt (by kernel_rfl) Try.underlying40 rfl CK.out ?_; go_frame))
        go_roundw
        case rel =>
          refine ⟨k + 1, by omega, by go_num, rounds_step5 HR.out HJ.out.1 HJ.out.2 HT.out H1.out H2.out rfl ?_ rfl rfl, HM.out, HW.out, HB.out⟩
          rw [HN.out]; rfl
        case measure => simp [intOf]; omega
      · by_cases h32 : k < 32
        · have HT := Lib.hid (show Dig.turns5.getD (1 * 4 + k % 4) 0 = n by rw [hn'.out, show k / 16 = 1 from by omega])
          have cW := getD_cell (Dig.length_words true bs) (i := (5 * k + 1) % 16) (by omega) hW
          obtain ⟨x2, hx2⟩ : ∃ x, x = (Dig.words true bs).getD ((5 * k + 1) % 16) 0 := ⟨_, rfl⟩
          rw [← hx2] at cW
          unfold u32v at cW
          have H2 := Lib.hid hx2
          have HW := Lib.hid hW
          have HJ := Lib.hid (show k / 16 = 1 ∧ Dig.word5 k = (5 * k + 1) % 16 from ⟨by omega, Dig.word5_1 (by omega)⟩)
          clear hx2 hW
          have e0 : ((k : Int) / 16 == 0) = false := by rw [beq_eq_false_iff_ne]; omega
          have e1 : ((k : Int) / 16 == 1) = true := by rw [beq_iff_eq]; omega
          go_wp2_with (first | (go_at_call 48; refine (rot_lit _ _ _).mono ?_; rintro e w' ⟨rfl, rfl⟩) | (refine wpList_index_agg rfl 67 _ _ rfl 40 64 _ k (.int .u32 x1.toNat) _ rfl rfl Try.underlying67 hlt (by kernel_rfl) Try.underlying40 rfl CK.out ?_; go_frame))
          go_roundw
          case rel =>
            refine ⟨k + 1, by omega, by go_num, rounds_step5 HR.out HJ.out.1 HJ.out.2 HT.out H1.out H2.out rfl ?_ rfl rfl, HM.out, HW.out, HB.out⟩
            rw [HN.out]; rfl
          case measure => simp [intOf]; omega
        · by_cases h48 : k < 48
          · have HT := Lib.hid (show Dig.turns5.getD (2 * 4 + k % 4) 0 = n by rw [hn'.out, show k / 16 = 2 from by omega])
            have cW := getD_cell (Dig.length_words true bs) (i := (3 * k + 5) % 16) (by omega) hW
            obtain ⟨x2, hx2⟩ : ∃ x, x = (Dig.words true bs).getD ((3 * k + 5) % 16) 0 := ⟨_, rfl⟩
            rw [← hx2] at cW
            unfold u32v at cW
            have H2 := Lib.hid hx2
            have HW := Lib.hid hW
            have HJ := Lib.hid (show k / 16 = 2 ∧ Dig.word5 k = (3 * k + 5) % 16 from ⟨by omega, Dig.word5_2 (by omega)⟩)
            clear hx2 hW
            have e0 : ((k : Int) / 16 == 0) = false := by rw [beq_eq_false_iff_ne]; omega
            have e1 : ((k : Int) / 16 == 1) = false := by rw [beq_eq_false_iff_ne]; omega
            have e2 : ((k : Int) / 16 == 2) = true := by rw [beq_iff_eq]; omega
            go_wp2_with (first | (go_at_call 48; refine (rot_lit _ _ _).mono ?_; rintro e w' ⟨rfl, rfl⟩) | (refine wpList_index_agg rfl 67 _ _ rfl 40 64 _ k (.int .u32 x1.toNat) _ rfl rfl Try.underlying67 hlt (by kernel_rfl) Try.underlying40 rfl CK.out ?_; go_frame))
            go_roundw
            case rel =>
              refine ⟨k + 1, by omega, by go_num, rounds_step5 HR.out HJ.out.1 HJ.out.2 HT.out H1.out H2.out rfl ?_ rfl rfl, HM.out, HW.out, HB.out⟩
              rw [HN.out]; rfl
            case measure => simp [intOf]; omega
          · have HT := Lib.hid (show Dig.turns5.getD (3 * 4 + k % 4) 0 = n by rw [hn'.out, show k / 16 = 3 from by omega])
            have cW := getD_cell (Dig.length_words true bs) (i := (7 * k) % 16) (by omega) hW
            obtain ⟨x2, hx2⟩ : ∃ x, x = (Dig.words true bs).getD ((7 * k) % 16) 0 := ⟨_, rfl⟩
            rw [← hx2] at cW
            unfold u32v at cW
            have H2 := Lib.hid hx2
            have HW := Lib.hid hW
            have HJ := Lib.hid (show k / 16 = 3 ∧ Dig.word5 k = (7 * k) % 16 from ⟨by omega, Dig.word5_3 (by omega)⟩)
            clear hx2 hW
            have e0 : ((k : Int) / 16 == 0) = false := by rw [beq_eq_false_iff_ne]; omega
            have e1 : ((k : Int) / 16 == 1) = false := by rw [beq_eq_false_iff_ne]; omega
            have e2 : ((k : Int) / 16 == 2) = false := by rw [beq_eq_false_iff_ne]; omega
            go_wp2_with (first | (go_at_call 48; refine (rot_lit _ _ _).mono ?_; rintro e w' ⟨rfl, rfl⟩) | (refine wpList_index_agg rfl 67 _ _ rfl 40 64 _ k (.int .u32 x1.toNat) _ rfl rfl Try.underlying67 hlt (by kernel_rfl) Try.underlying40 rfl CK.out ?_; go_frame))
            go_roundw
            case rel =>
              refine ⟨k + 1, by omega, by go_num, rounds_step5 HR.out HJ.out.1 HJ.out.2 HT.out H1.out H2.out rfl ?_ rfl rfl, HM.out, HW.out, HB.out⟩
              rw [HN.out]; rfl
            case measure => simp [intOf]; omega
    · obtain rfl : k = 64 := by omega
      clear hW hM
      have HB := Lib.hid hB
      obtain ⟨R, hR⟩ : ∃ R, R = r.list := ⟨_, rfl⟩
      have hRl : R.length = 4 := by rw [hR]; rfl
      have HT := Lib.hid (show List.zipWith Dig.ad S R = Dig.turn5 S bs by rw [hR, hr, Dig.turn5_eq, Hst.out])
      have HR2 := Lib.hid hR
      clear hB hr hR
      go_wp2_with (refine wpList_build rfl 44 _ rfl (R.map u32v) (by rw [HR2.out]; kernel_rfl) ?_; go_frame)
      go_loopw [116] (fun i wz => ∃ k : Nat, k ≤ 4 ∧ i = .int .i64 k ∧ wz.heap[g]? = some (.cells (laid C o (((List.zipWith Dig.ad S R).take k).map u32v)).toArray T (0, 0)) ∧ Kept w.heap.size [g] w wz) (fun i _ => 4 - (intOf i).toNat)
      case atStart => exact ⟨0, by omega, rfl, by rw [HB.out.block g hgB]; exact Hg.out, Kept.of_below HB.out⟩
      case round =>
        obtain ⟨k, hk, rfl, hG, hKp⟩ := hrel
        by_cases hk8 : k < 4
        · have cS := add_cell HL.out hRl HS.out hk8 hG
          have cF := free_of_list hG (o + k)
          have cR := getD_list hRl hk8
          obtain ⟨x1, hx1⟩ : ∃ x, x = S.getD k 0 := ⟨_, rfl⟩
          obtain ⟨x2, hx2⟩ : ∃ x, x = R.getD k 0 := ⟨_, rfl⟩
          rw [← hx1] at cS
          rw [← hx2] at cR
          unfold u32v at cS
          have H1 := Lib.hid hx1
          have H2 := Lib.hid hx2
          have HG := Lib.hid hG
          have HRl := Lib.hid hRl
          have CR := Lib.hid cR
          clear hx1 hx2 hG hRl cR
          go_wp2_with (refine wpList_index_agg rfl 44 _ _ rfl 40 4 _ k (.int .u32 x2.toNat) _ rfl rfl Try.underlying44 hk8 (by kernel_rfl) Try.underlying40 rfl CR.out ?_; go_frame)
          go_region
          go_wp2
          go_roundw
          case rel =>
            refine ⟨k + 1, by omega, by go_num, add_step HL.out HRl.out hk8 HG.out ?_, ((hKp.setCell (p := ⟨g, o + k, none⟩) (Or.inl (by simp)) _).drew)⟩
            rw [← H1.out, ← H2.out]; rfl
          case measure => simp [intOf]; omega
        · obtain rfl : k = 4 := by omega
          go_wp2
          go_end0
          refine ⟨rfl, ?_, hKp⟩
          rw [hG, ← HT.out, List.take_of_length_le (by simp [HL.out, hRl])]
end Go.Proofs.Ytjalmmhbjilabaa
