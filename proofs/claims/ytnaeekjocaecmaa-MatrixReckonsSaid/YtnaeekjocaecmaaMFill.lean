/- The walks of which of n things a number speaks of, and of a matrix out of raw bytes. -/
import Derived.Test.YtnaeekjocaecmaaMKnown
namespace Go.Proofs.Ytnaeekjocaecmaa
open Go.RowKit

@[irreducible] def pk (c : Int) (n : Nat) : Nat := ((if c < 0 then -(c + 1) else c) % (n : Int)).toNat
theorem pk_lt (c : Int) (n : Nat) (hn : 1 ≤ n) : pk c n < n := by
  unfold pk
  have := Int.emod_lt_of_pos (if c < 0 then -(c + 1) else c) (show (0 : Int) < n by omega)
  omega
theorem pick_any (c : Int) (n : Nat) (hn : 1 ≤ n) (hc : -9223372036854775808 ≤ c ∧ c ≤ 9223372036854775807) (w : World) : Calls Try.prog 33 #[.int .i64 c, .int .i64 n] w fun e w' => e = .returned (.int .i64 (pk c n)) ∧ w = w' := by
  have hp : (pk c n : Int) = (if c < 0 then -(c + 1) else c) % (n : Int) := by
    unfold pk
    have := Int.emod_nonneg (if c < 0 then -(c + 1) else c) (show (n : Int) ≠ 0 by omega)
    omega
  by_cases h : c < 0
  · rw [if_pos h] at hp
    have h2 : (-(c + 1)).tmod (n : Int) = (pk c n : Int) := by rw [hp, Int.tmod_eq_emod_of_nonneg (by omega)]
    obtain ⟨x, hx⟩ : ∃ x, x = -(c + 1) := ⟨_, rfl⟩
    rw [← hx] at h2
    have hx0 : 0 ≤ x ∧ x ≤ 9223372036854775807 := by omega
    have HP := Lib.hid h2
    have HX := Lib.hid hx
    clear hp h2 hx
    go_enter Try.func33, Try.ntmps33
    go_wp2_with fail
    go_ret
    refine ⟨ret_int ?_, rfl⟩
    rw [← HP.out, HX.out]
    exact (Int.neg_tmod _ _).symm
  · rw [if_neg h] at hp
    have h2 : c.tmod (n : Int) = (pk c n : Int) := by rw [hp, Int.tmod_eq_emod_of_nonneg (by omega)]
    have HP := Lib.hid h2
    clear hp h2
    go_enter Try.func33, Try.ntmps33
    go_wp2_with fail
    go_ret
    exact ⟨ret_int (by rw [← HP.out]; exact (Int.tmod_eq_emod_of_nonneg (by omega)).symm), rfl⟩
attribute [local go_sem high] g_xor
/-- What stands while a matrix is filled. -/
structure FillS (B g r c N : Nat) (a0 : Option Addr) (len cap : Nat) (l : List UInt8) (w0 v : World) : Prop where
  box : v.heap[B]? = some (.cells [Value.int .i64 r, .int .i64 c, .slice (some ⟨g, 0, none⟩) N N].toArray 24 (0, 0))
  cells : ∃ x : List UInt8, x.length = N ∧ v.heap[g]? = some (.cells (x.map u8v).toArray 5 (0, 0))
  raw : Hand a0 len cap l v
  res : ResAt w0.heap.size 24 v
  old : Below w0.heap.size w0 v
  rlt : ∀ b o, a0 = some ⟨b, o, none⟩ → 0 < len → b < w0.heap.size
  gw : w0.heap.size < g
  gB : g < B
theorem FillS.drew {B g r c N : Nat} {a0 : Option Addr} {len cap : Nat} {l : List UInt8} {w0 v : World} (h : FillS B g r c N a0 len cap l w0 v) : FillS B g r c N a0 len cap l w0 v.drew := ⟨h.box, h.cells, h.raw.drew, h.res, h.old.drew, h.rlt, h.gw, h.gB⟩
theorem FillS.set {B g r c N : Nat} {a0 : Option Addr} {len cap : Nat} {l : List UInt8} {w0 v : World} (h : FillS B g r c N a0 len cap l w0 v) (i : Nat) (x : UInt8) : FillS B g r c N a0 len cap l w0 (v.setCell ⟨g, i, none⟩ (.int .u8 x.toNat)) := by
  obtain ⟨y, hy, hc⟩ := h.cells
  refine ⟨(heap_setCell_other _ _ _ _ (by show B ≠ g; have := h.gB; omega)).trans h.box, ⟨y.set i x, by rw [List.length_set, hy], by rw [set_list hc i (.int .u8 x.toNat), List.map_set]; rfl⟩, ⟨h.raw.hl, h.raw.hc, fun h0 => ?_⟩, (heap_setCell_other _ _ _ _ (by show w0.heap.size ≠ g; have := h.gw; omega)).trans h.res, h.old.setCell (by show w0.heap.size ≤ g; have := h.gw; omega) _, h.rlt, h.gw, h.gB⟩
  obtain ⟨b, o, e, hlt, hr⟩ := h.raw.cells h0
  refine ⟨b, o, e, by rw [World.size_setCell]; exact hlt, fun j u hu => ?_⟩
  have hb := h.rlt b o e h0
  rw [World.cell?_setCell_other _ _ _ _ (fun e => by have := h.gw; injection e with e1 _ _; omega)]
  exact hr j u hu
set_option maxRecDepth 20000 in
set_option maxHeartbeats 2000000 in
theorem filled_any (r c N : Nat) (a0 : Option Addr) (len cap : Nat) (l : List UInt8) (hN : r * c = N) (hmax : N ≤ 1000000) (hll : len ≤ 1000000000000000) (w : World) (hl : Hand a0 len cap l w) :
    Calls Try.prog 34 #[.int .i64 r, .int .i64 c, .slice a0 len cap] w fun e w' => ∃ g M, w.heap.size ≤ g ∧ e = .returned (.agg #[.int .i64 r, .int .i64 c, .slice (some ⟨g, 0, none⟩) N N]) ∧ Tab g M r c w' ∧ Below w.heap.size w w' := by
  have hx : wrap64 ((r : Int) * (c : Int)) = (N : Int) := by
    have : (r : Int) * (c : Int) = (N : Int) := by rw [← hN]; simp
    rw [this]; unfold wrap64; omega
  have hm := make_zeros N hmax
  obtain ⟨wa, hwa⟩ : ∃ wa, wa = (w.alloc (.cells #[.int .i64 0, .int .i64 0, .slice none 0 0] 24)).alloc (.cells (List.replicate N (Value.int .u8 0)).toArray 5) := ⟨_, rfl⟩
  have hres : ResAt w.heap.size 24 wa := by rw [hwa]; exact heap_alloc2_old _ _ _
  have hcel : wa.heap[w.heap.size + 1]? = some (.cells (((List.replicate N (0 : UInt8))).map u8v).toArray 5 (0, 0)) := by rw [hwa, List.map_replicate]; exact heap_alloc2_new _ _ _
  have hba : Below w.heap.size w wa := by rw [hwa]; exact ((Below.refl _ _).alloc (Nat.le_refl _) _).alloc (by simp) _
  have hsz : wa.heap.size = w.heap.size + 1 + 1 := by rw [hwa]; simp
  have HN := Lib.hid hN
  have HL := Lib.hid hl
  have HWA := Lib.hid hwa
  have HA := Lib.hid (And.intro hres (And.intro hcel hba))
  clear hN hl hwa hres hcel hba
  go_enter Try.func34, Try.ntmps34
  go_wp2_with (refine wpList_store_whole rfl 24 _ _ rfl (w.heap.size + 1 + 1) [.int .i64 r, .int .i64 c, .slice (some ⟨w.heap.size + 1, 0, none⟩) N N] zeroRow 24 rfl rfl (by have := heap_alloc_new wa (.cells #[.int .i64 0, .int .i64 0, .slice none 0 0] 24); rw [hsz, HWA.out] at this; exact this) rfl (by kernel_rfl) (mat_ones _ _ _ _) ?_; intro w2 h2 k2 s2; go_frame)
  have k3 : Kept (wa.alloc (.cells #[.int .i64 0, .int .i64 0, .slice none 0 0] 24)).heap.size [w.heap.size + 1 + 1] (wa.alloc (.cells #[.int .i64 0, .int .i64 0, .slice none 0 0] 24)) w2 := by rw [HWA.out]; exact k2.out
  have hB2 : Below wa.heap.size wa w2 := below_kept (below_alloc wa _) k3 (by omega) (by simp)
  obtain ⟨r1, r2, r3⟩ := HA.out
  have HF : Hid (FillS (w.heap.size + 1 + 1) (w.heap.size + 1) r c N a0 len cap l w w2) := Lib.hid
    ⟨h2.out, ⟨List.replicate N 0, by simp, (hB2.block _ (by omega)).trans r2⟩, HL.out.below (r3.trans (hB2.mono r3.size)) rfl, r1.below hB2 r1.lt, r3.trans (hB2.mono r3.size), fun b o e h0 => by
      obtain ⟨b', o', e', hlt, _⟩ := HL.out.cells h0
      rw [e] at e'
      injection e' with e'
      injection e' with e1 _ _
      omega, by omega, by omega⟩
  clear h2 k2 s2 k3 hB2 r1 r2 r3 HA HWA hsz hm hx HL
  go_loopw [8] (fun iv wr => ∃ i : Nat, i ≤ N ∧ iv = .int .i64 i ∧ FillS (w.heap.size + 1 + 1) (w.heap.size + 1) r c N a0 len cap l w wr) (fun iv _ => N - (intOf iv).toNat)
  case atStart => exact ⟨0, by omega, rfl, HF.out⟩
  case round =>
    clear HF
    obtain ⟨i, hi, rfl, hA⟩ := hrel
    have d2 := (heap_cell0 hA.box).2.2
    by_cases hlt : i < N ∧ 0 < len
    · obtain ⟨hlt, hl0⟩ := hlt
      obtain ⟨b, o, rfl, hbl, hrw⟩ := hA.raw.cells hl0
      have hmod := Nat.mod_lt i hl0
      obtain ⟨q, hq⟩ : ∃ q, q = i % len := ⟨_, rfl⟩
      rw [← hq] at hmod
      have hql : q < l.length := by rw [hA.raw.hl]; exact hmod
      obtain ⟨x, hx⟩ : ∃ x, l[q]? = some x := ⟨_, List.getElem?_eq_getElem hql⟩
      obtain ⟨y, hy⟩ : ∃ y : UInt8, y.toNat = (i / len) % 256 := ⟨UInt8.ofNat (i / len), by rw [UInt8.toNat_ofNat']⟩
      have em : (i : Int).tmod (len : Int) = (q : Int) := by rw [Int.tmod_eq_emod_of_nonneg (by omega), hq]; simp
      have ed : (i : Int).tdiv (len : Int) = ((i / len : Nat) : Int) := by rw [Int.tdiv_eq_ediv_of_nonneg (by omega)]; simp
      have ed2 : (((i / len : Nat) : Int)) % 256 = (y.toNat : Int) := by rw [hy]; simp
      obtain ⟨S, hS⟩ : ∃ S, S = FillS (w.heap.size + 1 + 1) (w.heap.size + 1) r c N (some ⟨b, o, none⟩) len cap l w := ⟨_, rfl⟩
      have c2 : ∀ u : Of S, u.w.cell? ⟨w.heap.size + 1 + 1, 2, none⟩ = some (.slice (some ⟨w.heap.size + 1, 0, none⟩) N N) := by rw [hS]; exact fun u => (heap_cell0 u.ok.box).2.2
      have cx : ∀ u : Of S, u.w.cell? ⟨b, o + q, none⟩ = some (.int .u8 (x.toNat : Int)) := by
        rw [hS]
        intro u
        obtain ⟨b', o', e', _, hr'⟩ := u.ok.raw.cells hl0
        injection e' with e'
        injection e' with e1 e2 _
        subst e1; subst e2
        exact hr' q _ (by rw [List.getElem?_map, hx]; rfl)
      haveI : Nonempty (Of S) := ⟨⟨_, by rw [hS]; exact hA⟩⟩
      have hAd : S wr.drew := by rw [hS]; exact hA.drew
      have HD := Lib.hid hAd
      have HS := Lib.hid hS
      clear hA hAd hS hrw hx hy hq hql
      obtain ⟨dd, hdd⟩ : ∃ dd : Nat, dd = i / len := ⟨_, rfl⟩
      have hdle : dd ≤ i := by rw [hdd]; exact Nat.div_le_self _ _
      rw [← hdd] at ed ed2
      clear hdd
      have hz : bits .xor .u8 (x.toNat : Int) (wrap64 (dd : Int) % 256) = ((xr x y).toNat : Int) := by
        rw [show wrap64 (dd : Int) = (dd : Int) by unfold wrap64; omega, ed2]; exact g_xor x y
      have HZ := Lib.hid hz
      clear hz
      go_wp2_with fail
      refine wp_region_S_tail S (by kernel_rfl) rfl (store_same rfl) (by kernel_rfl) (by kernel_rfl) (by kernel_rfl) HD.out ?_
      simp only [initL, lastL, List.cons_append, List.nil_append, Oper.mute]
      repeat (go_big_quiet_step (fail))
      refine wpQuiet_nil ?_
      rintro w3 ⟨u3, e3⟩
      have h3 : S w3 := e3 ▸ u3.ok
      rw [HS.out] at h3
      obtain ⟨zs, hzs, hzc⟩ := h3.cells
      have k0 : w3.cell? ⟨w.heap.size + 1, i, none⟩ = some (u8v (zs.getD i 0)) := by
        rw [cell_of_list hzc, List.getElem?_map, List.getD, List.getElem?_eq_getElem (by omega)]; rfl
      have f0 := free_of_list hzc i
      have H3 := Lib.hid h3
      have hz := HZ.out
      clear e3 u3 h3 c2 cx this HD hzs hzc em ed ed2 HZ
      refine ends_store (w3.setCell ⟨w.heap.size + 1, i, none⟩ (.int .u8 (xr x y).toNat)) (by go_simp) ?_
      have H4 : Hid (FillS (w.heap.size + 1 + 1) (w.heap.size + 1) r c N (some ⟨b, o, none⟩) len cap l w (w3.setCell ⟨w.heap.size + 1, i, none⟩ (.int .u8 (xr x y).toNat))) := Lib.hid (H3.out.set i (xr x y))
      clear k0 f0 H3 hz
      go_wp2_with fail
      go_roundw
      case rel => exact ⟨i + 1, by omega, by go_num, H4.out⟩
      case measure => simp [intOf]; omega
    · have HA := Lib.hid hA
      have fin : Hid (∀ w4, w4.heap[w.heap.size]? = some (.cells [Value.int .i64 r, .int .i64 c, .slice (some ⟨w.heap.size + 1, 0, none⟩) N N].toArray 24 (0, 0)) → Kept wr.heap.size [w.heap.size] wr w4 → ∃ g M, w.heap.size ≤ g ∧ Ending.returned (.agg [Value.int .i64 r, .int .i64 c, .slice (some ⟨w.heap.size + 1, 0, none⟩) N N].toArray) = .returned (.agg #[.int .i64 r, .int .i64 c, .slice (some ⟨g, 0, none⟩) N N]) ∧ Tab g M r c w4 ∧ Below w.heap.size w w4) := Lib.hid (fun w4 _ k4 => by
        obtain ⟨y, hy, hc⟩ := HA.out.cells
        refine ⟨w.heap.size + 1, matOf c y, by omega, rfl, ?_, below_kept HA.out.old k4 (Nat.le_refl _) HA.out.old.size⟩
        unfold Tab
        rw [flat_matOf r c y (by rw [hy, HN.out]), k4.block _ (lt_of_heap hc) (by simp)]; exact hc)
      obtain ⟨d0, d1, _⟩ := heap_cell0 hA.box
      clear hA
      by_cases hiN : i < N
      · have hl0 : len = 0 := by omega
        subst hl0
        clear hlt
        go_wp2_with (refine wpList_store_whole rfl 24 _ _ rfl w.heap.size [.int .i64 r, .int .i64 c, .slice (some ⟨w.heap.size + 1, 0, none⟩) N N] zeroRow 24 rfl rfl HA.out.res rfl (by kernel_rfl) (mat_ones _ _ _ _) ?_; intro w4 h4 k4 s4; go_frame)
        exact bodyPost_ret (results_mid Try.results34 _ _ w.heap.size 0 [.int .i64 r, .int .i64 c, .slice (some ⟨w.heap.size + 1, 0, none⟩) N N] _ rfl (range_of_list h4.out) Try.underlying24 rfl (by kernel_rfl)) rfl (fin.out _ h4.out k4.out)
      · obtain rfl : i = N := by omega
        clear hlt
        go_wp2_with (refine wpList_store_whole rfl 24 _ _ rfl w.heap.size [.int .i64 r, .int .i64 c, .slice (some ⟨w.heap.size + 1, 0, none⟩) i i] zeroRow 24 rfl rfl HA.out.res rfl (by kernel_rfl) (mat_ones _ _ _ _) ?_; intro w4 h4 k4 s4; go_frame)
        exact bodyPost_ret (results_mid Try.results34 _ _ w.heap.size 0 [.int .i64 r, .int .i64 c, .slice (some ⟨w.heap.size + 1, 0, none⟩) i i] _ rfl (range_of_list h4.out) Try.underlying24 rfl (by kernel_rfl)) rfl (fin.out _ h4.out k4.out)
end Go.Proofs.Ytnaeekjocaecmaa
