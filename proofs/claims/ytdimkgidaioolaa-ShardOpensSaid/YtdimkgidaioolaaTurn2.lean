/- The walk of SHA-256's turn: a block is taken in. -/
import Derived.Test.YtdimkgidaioolaaTurn
import Derived.Deep.QuietTactic
import Derived.BigQuiet
namespace Go.Proofs.Ytdimkgidaioolaa
open Go.RowKit

/-- The eight slots hold what k rounds have made of the words. -/
def RoundsAt (ws : List UInt32) (s : Dig.Eight) (k : Nat) (a b c d e f g h : Value) : Prop :=
  ∃ r : Dig.Eight, r = Dig.roundsTo ws s k ∧ a = .int .u32 r.a.toNat ∧ b = .int .u32 r.b.toNat ∧ c = .int .u32 r.c.toNat ∧ d = .int .u32 r.d.toNat ∧
    e = .int .u32 r.e.toNat ∧ f = .int .u32 r.f.toNat ∧ g = .int .u32 r.g.toNat ∧ h = .int .u32 r.h.toNat
theorem rounds_start (ws : List UInt32) (s : Dig.Eight) : RoundsAt ws s 0 (.int .u32 s.a.toNat) (.int .u32 s.b.toNat) (.int .u32 s.c.toNat) (.int .u32 s.d.toNat) (.int .u32 s.e.toNat) (.int .u32 s.f.toNat) (.int .u32 s.g.toNat) (.int .u32 s.h.toNat) :=
  ⟨s, (Dig.roundsTo_zero ws s).symm, rfl, rfl, rfl, rfl, rfl, rfl, rfl, rfl⟩
theorem getD_list {R : List UInt32} {n k : Nat} (hn : R.length = n) (hk : k < n) : (R.map u32v)[k]? = some (u32v (R.getD k 0)) := by
  rw [List.getElem?_map, List.getD, List.getElem?_eq_getElem (by omega)]; rfl
theorem add_cell {S R : List UInt32} {C : List Value} {o g n k : Nat} {T : TypeId} {w : World} (hS : S.length = n) (hR : R.length = n) (hC : ∀ i, i < n → C[o + i]? = some (u32v (S.getD i 0))) (hk : k < n)
    (hg : w.heap[g]? = some (.cells (laid C o (((List.zipWith Dig.ad S R).take k).map u32v)).toArray T (0, 0))) : w.cell? ⟨g, o + k, none⟩ = some (u32v (S.getD k 0)) := by
  rw [cell_of_list hg, laid_get_out _ _ _ _ (Or.inr (by simp [hS, hR]; omega)), hC k hk]
theorem add_step {S R : List UInt32} {C : List Value} {o g n k : Nat} {T : TypeId} {w : World} {v : Value} (hS : S.length = n) (hR : R.length = n) (hk : k < n)
    (hg : w.heap[g]? = some (.cells (laid C o (((List.zipWith Dig.ad S R).take k).map u32v)).toArray T (0, 0))) (hv : v = u32v (Dig.ad (S.getD k 0) (R.getD k 0))) :
    (w.setCell ⟨g, o + k, none⟩ v).drew.heap[g]? = some (.cells (laid C o (((List.zipWith Dig.ad S R).take (k + 1)).map u32v)).toArray T (0, 0)) := by
  have hz : (List.zipWith Dig.ad S R).length = n := by simp [hS, hR]
  have e : (List.zipWith Dig.ad S R)[k]'(by omega) = Dig.ad (S.getD k 0) (R.getD k 0) := by
    rw [List.getElem_zipWith, List.getD, List.getD, List.getElem?_eq_getElem (by omega), List.getElem?_eq_getElem (by omega)]; rfl
  rw [heap_drew, set_list hg, List.take_succ_eq_append_getElem (by omega), e, List.map_append, List.map_singleton, laid_snoc, hv]
  congr 4
  rw [List.length_map, List.length_take]; omega
theorem rounds_step {ws : List UInt32} {s r : Dig.Eight} {k : Nat} {a b c d e f g h : Value} (hr : r = Dig.roundsTo ws s k)
    (hn : let n := Dig.round (Dig.k256.getD k 0) (ws.getD k 0) r
      a = .int .u32 n.a.toNat ∧ b = .int .u32 n.b.toNat ∧ c = .int .u32 n.c.toNat ∧ d = .int .u32 n.d.toNat ∧ e = .int .u32 n.e.toNat ∧ f = .int .u32 n.f.toNat ∧ g = .int .u32 n.g.toNat ∧ h = .int .u32 n.h.toNat) :
    RoundsAt ws s (k + 1) a b c d e f g h := ⟨_, by rw [Dig.roundsTo_succ, ← hr], hn⟩

attribute [local go_sem] go_add go_add' go_xor go_and go_not go_not' u32_signed
set_option maxRecDepth 100000 in
set_option maxHeartbeats 1000000 in
theorem turn256_any (g o gb ob : Nat) (S : List UInt32) (bs : List UInt8) (C Cb : List Value) (T Tb : TypeId) (frb : Nat × Nat) (w : World)
    (hg : w.heap[g]? = some (.cells C.toArray T (0, 0))) (hlen : S.length = 8) (hS : ∀ i, i < 8 → C[o + i]? = some (u32v (S.getD i 0)))
    (hb : w.heap[gb]? = some (.cells Cb.toArray Tb frb)) (hC : ∀ i, i < 64 → Cb[ob + i]? = some (u8v (bs.getD i 0))) :
    Calls Try.prog 49 #[.pointer (some ⟨g, o, none⟩), .pointer (some ⟨gb, ob, none⟩)] w fun e w' =>
      e = .returned (.tuple #[]) ∧ w'.heap[g]? = some (.cells (laid C o ((Dig.turn256 S bs).map u32v)).toArray T (0, 0)) ∧ Kept w.heap.size [g] w w' := by
  have hgB := lt_of_heap hg
  have hbB := lt_of_heap hb
  go_enter Try.func49, Try.ntmps49
  go_wp2_with fail
  refine (addends256_any _).mono ?_
  rintro e w1 ⟨rfl, hb1⟩
  go_wp2_with fail
  refine (spread256_any gb ob bs Cb Tb frb _ (by rw [hb1.block _ hbB]; exact hb) hC).mono ?_
  rintro e w2 ⟨rfl, hb2⟩
  have hK : (Dig.k256.map u32v).length = 64 := by rw [List.length_map, Dig.length_k256]
  have hW : ((Dig.spread bs).map u32v).length = 64 := by rw [List.length_map, Dig.length_spread]
  have hp2 : ∀ vs, (((w2.alloc (.cells (zeros 64).toArray 81)).alloc (.cells (zeros 64).toArray 81)).setCells w2.heap.size 0 vs).heap[w2.heap.size + 1]? = some (.cells (zeros 64).toArray 81 (0, 0)) := fun vs => by
    rw [setCells_other (by omega)]; exact heap_alloc2_new _ _ _
  go_wp2_with (first | (refine wpList_alloc rfl 81 rfl (zeros 64) alloc64 ?_; go_frame; (try simp only [World.size_alloc])) | (refine wpList_store_new rfl 81 _ _ rfl w2.heap.size (Dig.k256.map u32v) (zeros 64) 81 rfl rfl (heap_alloc2_old _ _ _) (by rw [hK, length_zeros]) (by rw [hK]; kernel_rfl) (u32_ones _) ?_; go_frame) | (refine wpList_store_new rfl 81 _ _ rfl (w2.heap.size + 1) ((Dig.spread bs).map u32v) (zeros 64) 81 rfl rfl (hp2 _) (by rw [hW, length_zeros]) (by rw [hW]; kernel_rfl) (u32_ones _) ?_; go_frame) | fail)
  obtain ⟨w3, hw3⟩ : ∃ w3, w3 = (((w2.alloc (.cells (zeros 64).toArray 81)).alloc (.cells (zeros 64).toArray 81)).setCells w2.heap.size 0 (Dig.k256.map u32v)).setCells (w2.heap.size + 1) 0 ((Dig.spread bs).map u32v) := ⟨_, rfl⟩
  rw [← hw3]
  have hs1 := hb1.size
  have hs2 := hb2.size
  have hB2 : Below w.heap.size w w2 := hb1.trans (hb2.mono hs1)
  have hK3 : w3.heap[w2.heap.size]? = some (.cells (Dig.k256.map u32v).toArray 81 (0, 0)) := by
    rw [hw3, setCells_other (by omega), setCells_list _ _ _ _ (heap_alloc2_old _ _ _), laid_whole _ _ (by rw [hK, length_zeros])]
  have hW3 : w3.heap[w2.heap.size + 1]? = some (.cells ((Dig.spread bs).map u32v).toArray 81 (0, 0)) := by
    rw [hw3, setCells_list _ _ _ _ (hp2 _), laid_whole _ _ (by rw [hW, length_zeros])]
  have hB3 : Below w.heap.size w w3 := by
    rw [hw3]; exact below_setCells (below_setCells ((hB2.alloc (by omega) _).alloc (by simp; omega) _) (by omega) _ _) (by omega) _ _
  have hs3 : w2.heap.size + 1 < w3.heap.size := lt_of_heap hW3
  have hcell : ∀ i, i < 8 → w3.cell? ⟨g, o + i, none⟩ = some (u32v (S.getD i 0)) := fun i hi => by
    rw [hB3.cell (p := ⟨g, o + i, none⟩) hgB, cell_of_list hg, hS i hi]
  obtain ⟨st, hst⟩ : ∃ st, st = Dig.Eight.of S := ⟨_, rfl⟩
  have c0 : w3.cell? ⟨g, o, none⟩ = some (.int .u32 st.a.toNat) := by rw [hst]; exact hcell 0 (by omega)
  have c1 : w3.cell? ⟨g, o + 1, none⟩ = some (.int .u32 st.b.toNat) := by rw [hst]; exact hcell 1 (by omega)
  have c2 : w3.cell? ⟨g, o + 2, none⟩ = some (.int .u32 st.c.toNat) := by rw [hst]; exact hcell 2 (by omega)
  have c3 : w3.cell? ⟨g, o + 3, none⟩ = some (.int .u32 st.d.toNat) := by rw [hst]; exact hcell 3 (by omega)
  have c4 : w3.cell? ⟨g, o + 4, none⟩ = some (.int .u32 st.e.toNat) := by rw [hst]; exact hcell 4 (by omega)
  have c5 : w3.cell? ⟨g, o + 5, none⟩ = some (.int .u32 st.f.toNat) := by rw [hst]; exact hcell 5 (by omega)
  have c6 : w3.cell? ⟨g, o + 6, none⟩ = some (.int .u32 st.g.toNat) := by rw [hst]; exact hcell 6 (by omega)
  have c7 : w3.cell? ⟨g, o + 7, none⟩ = some (.int .u32 st.h.toNat) := by rw [hst]; exact hcell 7 (by omega)
  have Hst := Lib.hid hst
  have Hg := Lib.hid hg
  have HB3 := Lib.hid hB3
  have HK3 := Lib.hid hK3
  have HW3 := Lib.hid hW3
  have HS := Lib.hid hS
  have HL := Lib.hid hlen
  clear hst hp2 hcell hw3 hB2 hK hW hb1 hb2 hs1 hg hb hC hB3 hK3 hW3 hS hlen
  go_quiet (fail)
  go_wp2
  obtain ⟨w4, hw4⟩ : ∃ w4, w4 = w3.drewN nq := ⟨_, rfl⟩
  rw [← hw4]
  have hB4 : Below w.heap.size w w4 := by rw [hw4]; exact below_drewN HB3.out nq
  have hK4 : w4.heap[w2.heap.size]? = some (.cells (Dig.k256.map u32v).toArray 81 (0, 0)) := by rw [hw4]; exact HK3.out
  have hW4 : w4.heap[w2.heap.size + 1]? = some (.cells ((Dig.spread bs).map u32v).toArray 81 (0, 0)) := by rw [hw4]; exact HW3.out
  clear hw4 HB3 HK3 HW3 c0 c1 c2 c3 c4 c5 c6 c7 hs3
  go_loopw [57, 6, 7, 8, 9, 10, 11, 12, 13] (fun i a b c d e f g h wr => ∃ k : Nat, k ≤ 64 ∧ i = .int .i64 k ∧ RoundsAt (Dig.spread bs) st k a b c d e f g h ∧
    wr.heap[w2.heap.size]? = some (.cells (Dig.k256.map u32v).toArray 81 (0, 0)) ∧ wr.heap[w2.heap.size + 1]? = some (.cells ((Dig.spread bs).map u32v).toArray 81 (0, 0)) ∧ Below w.heap.size w wr) (fun i _ _ _ _ _ _ _ _ _ => 64 - (intOf i).toNat)
  case atStart => exact ⟨0, by omega, rfl, rounds_start _ _, hK4, hW4, hB4⟩
  case round =>
    clear hK4 hW4 hB4
    obtain ⟨k, hk, rfl, hR, hK, hW, hB⟩ := hrel
    obtain ⟨r, hr, rfl, rfl, rfl, rfl, rfl, rfl, rfl, rfl⟩ := hR
    by_cases hlt : k < 64
    · have cK := getD_cell Dig.length_k256 hlt hK
      have cW := getD_cell (Dig.length_spread bs) hlt hW
      obtain ⟨x1, hx1⟩ : ∃ x, x = Dig.k256.getD k 0 := ⟨_, rfl⟩
      obtain ⟨x2, hx2⟩ : ∃ x, x = (Dig.spread bs).getD k 0 := ⟨_, rfl⟩
      rw [← hx1] at cK
      rw [← hx2] at cW
      unfold u32v at cK cW
      have H1 := Lib.hid hx1
      have H2 := Lib.hid hx2
      have HK := Lib.hid hK
      have HW := Lib.hid hW
      have HR := Lib.hid hr
      have HB := Lib.hid hB
      clear hx1 hx2 hK hW hr hB
      go_wp2_with (go_at_call 56; refine (rot_lit _ _ _).mono ?_; rintro e w' ⟨rfl, rfl⟩)
      go_quiet (fail)
      go_wp2_with (go_at_call 56; refine (rot_lit _ _ _).mono ?_; rintro e w' ⟨rfl, rfl⟩)
      go_roundw
      case rel =>
        refine ⟨k + 1, by omega, by go_num, rounds_step HR.out ?_, by rw [World.heap_drewN]; exact HK.out, by rw [World.heap_drewN]; exact HW.out, below_drewN HB.out _⟩
        rw [← H1.out, ← H2.out]
        refine ⟨?_, rfl, rfl, rfl, ?_, rfl, rfl, rfl⟩
        · simp only [Dig.round, Dig.first_eq, Dig.second_eq]; rfl
        · simp only [Dig.round, Dig.first_eq]; rfl
      case measure => simp [intOf]; omega
    · obtain rfl : k = 64 := by omega
      clear hW hK
      have HB := Lib.hid hB
      have HR := Lib.hid hr
      clear hB hr
      obtain ⟨R, hR⟩ : ∃ R, R = r.list := ⟨_, rfl⟩
      have hRl : R.length = 8 := by rw [hR]; rfl
      have HT := Lib.hid (show List.zipWith Dig.ad S R = Dig.turn256 S bs by rw [hR, HR.out, Dig.turn256_eq, Hst.out])
      have HR2 := Lib.hid hR
      clear hR
      go_wp2_with (refine wpList_build rfl 80 _ rfl (R.map u32v) (by rw [HR2.out]; kernel_rfl) ?_; go_frame)
      clear HR
      go_loopw [133] (fun i wz => ∃ k : Nat, k ≤ 8 ∧ i = .int .i64 k ∧ wz.heap[g]? = some (.cells (laid C o (((List.zipWith Dig.ad S R).take k).map u32v)).toArray T (0, 0)) ∧ Kept w.heap.size [g] w wz) (fun i _ => 8 - (intOf i).toNat)
      case atStart => exact ⟨0, by omega, rfl, by rw [HB.out.block g hgB]; exact Hg.out, Kept.of_below HB.out⟩
      case round =>
        obtain ⟨k, hk, rfl, hG, hKp⟩ := hrel
        by_cases hk8 : k < 8
        · have cS := add_cell HL.out hRl HS.out hk8 hG
          have cF := free_of_list hG (o + k)
          have cR := getD_list hRl hk8
          obtain ⟨x1, hx1⟩ : ∃ x, x = S.getD k 0 := ⟨_, rfl⟩
          obtain ⟨x2, hx2⟩ : ∃ x, x = R.getD k 0 := ⟨_, rfl⟩
          rw [← hx1] at cS
          rw [← hx2] at cR
          unfold u32v at cS
          have H1 := Lib.hid hx1
          have H2 := Lib.hid hx2
          have HG := Lib.hid hG
          have HRl := Lib.hid hRl
          have CR := Lib.hid cR
          clear hx1 hx2 hG hRl cR
          go_wp2_with (refine wpList_index_agg rfl 80 _ _ rfl 79 8 _ k (.int .u32 x2.toNat) _ rfl rfl Try.underlying80 hk8 (by kernel_rfl) Try.underlying79 rfl CR.out ?_; go_frame)
          go_region
          go_wp2
          go_roundw
          case rel =>
            refine ⟨k + 1, by omega, by go_num, add_step HL.out HRl.out hk8 HG.out ?_, ((hKp.setCell (p := ⟨g, o + k, none⟩) (Or.inl (by simp)) _).drew)⟩
            rw [← H1.out, ← H2.out]; rfl
          case measure => simp [intOf]; omega
        · obtain rfl : k = 8 := by omega
          go_wp2
          go_end0
          refine ⟨rfl, ?_, hKp⟩
          rw [hG, ← HT.out, List.take_of_length_le (by simp [HL.out, hRl])]
end Go.Proofs.Ytdimkgidaioolaa
