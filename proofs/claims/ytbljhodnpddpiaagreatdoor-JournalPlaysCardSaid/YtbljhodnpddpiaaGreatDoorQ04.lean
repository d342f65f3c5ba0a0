/- Several texts in one, in the order in which they build: DSettle DLose. -/
import Derived.Test.YtbljhodnpddpiaaGreatDoorQ03
import Derived.Deep.RegionHeldLaw
/- The walks of what flushing and losing have in common: pending writes are settled. -/
namespace Go.Proofs.YtbljhodnpddpiaaGreatDoor
open Go.RowKit

/-- What is asked, write by write, how many bytes of it last. -/
structure Keeps (f : FuncId) (cap : Array Value) (kept : Nat → Nat) (X Y : List Nat) (I : Nat → World → Prop) : Prop where
  sub : ∀ y ∈ Y, y ∈ X
  le : ∀ j, kept j ≤ 64
  enters : ∀ args w, (callFunc f args).run Tryz.prog w = .ok (.enter f args) w
  stays : ∀ j w w', I j w → (∀ k ∈ X, w'.heap[k]? = w.heap[k]?) → I j w'
  call : ∀ (j : Nat) (w : World), j < 1000000 → I j w → Calls Tryz.prog f (#[.int .i64 j] ++ cap) w fun e w' => e = .returned (.int .i64 (kept j)) ∧ (I (j + 1) w' ∧ Kept w.heap.size Y w w')

/-- What stands ahead of the j-th write. -/
structure At (d bl bn : Nat) (pv : Value) (n : Nat) (S : List (List UInt8)) (ps : List Dk.Wr) (kept : Nat → Nat) (Y : List Nat) (I : Nat → World → Prop) (w : World) (j : Nat) (wr : World) : Prop where
  inv : I j wr
  lst : wr.heap[bl]? = some (.cells (sectCells (Dk.settleTo S ps kept j)).toArray 109 (0, 0))
  nws : wr.heap[bn]? = some (.cells ((Dk.zeroTo (Dk.news n ps) ps j).map natv).toArray 3 (0, 0))
  frm : Kept w.heap.size ([bl, bn] ++ Y) w wr

/-- What stands within a round: the disk, the box with the write. -/
structure Mid (d bl bn B : Nat) (X : List Nat) (cs : List Value) (w wr v : World) : Prop where
  dd : v.heap[d]? = w.heap[d]?
  ll : v.heap[bl]? = wr.heap[bl]?
  nn : v.heap[bn]? = wr.heap[bn]?
  bx : v.heap[B]? = some (.cells cs.toArray 111 (0, 0))
  fr : Kept w.heap.size ([bl, bn] ++ X) w v
  gr : wr.heap.size ≤ B
theorem Mid.kept {d bl bn B : Nat} {X : List Nat} {cs : List Value} {w wr v v' : World} (h : Mid d bl bn B X cs w wr v) (hk : Kept v.heap.size X v v') (hd : d < w.heap.size) (hl : bl < w.heap.size) (hn : bn < w.heap.size) (hz : w.heap.size ≤ wr.heap.size)
    (hX : ∀ x ∈ X, x < w.heap.size ∧ x ≠ d ∧ x ≠ bl ∧ x ≠ bn) : Mid d bl bn B X cs w wr v' := by
  have hv := h.fr.size
  have hB := lt_of_heap h.bx
  have hgr := h.gr
  exact ⟨(hk.block d (by omega) (fun hm => (hX d hm).2.1 rfl)).trans h.dd, (hk.block bl (by omega) (fun hm => (hX bl hm).2.2.1 rfl)).trans h.ll, (hk.block bn (by omega) (fun hm => (hX bn hm).2.2.2 rfl)).trans h.nn,
    (hk.block B hB (fun hm => by have := (hX B hm).1; omega)).trans h.bx, h.fr.trans (hk.mono hv (fun k _ hm => by simp [hm])), h.gr⟩
theorem Mid.drew {d bl bn B : Nat} {X : List Nat} {cs : List Value} {w wr v : World} (h : Mid d bl bn B X cs w wr v) : Mid d bl bn B X cs w wr v.drew := ⟨h.dd, h.ll, h.nn, h.bx, h.fr.drew, h.gr⟩
set_option maxRecDepth 100000 in
set_option maxHeartbeats 2000000 in
theorem settle_any (f : FuncId) (cap : Array Value) (kept : Nat → Nat) (X Y : List Nat) (I : Nat → World → Prop) (hK : Keeps f cap kept X Y I)
    (d p bl bn : Nat) (pv : Value) (n : Nat) (S : List (List UInt8)) (ps : List Dk.Wr) (life : Int) (w : World) (h : LiveAt d p bl bn pv n S ps life w) (hI : I 0 w)
    (hX : ∀ x ∈ X, x < w.heap.size ∧ x ≠ d ∧ x ≠ bl ∧ x ≠ bn ∧ pv.ownBlock ≠ some x) :
    Calls Tryz.prog 30 #[.pointer (some ⟨d, 1, none⟩), .func (.func f) #[] cap] w fun e w' => e = .returned (.tuple #[]) ∧
      LiveAt d p bl bn (.slice none 0 0) n (Dk.settleTo S ps kept ps.length) [] life w' ∧ I ps.length w' ∧ Kept w.heap.size ([d, bl, bn] ++ Y) w w' := by
  obtain ⟨b, pcap, rfl⟩ := h.slice
  have c2 := h.c2
  have hfew := h.few
  have H := Lib.hid h
  have HK := Lib.hid hK
  have HX := Lib.hid hX
  have hs0 : At d bl bn (.slice b ps.length pcap) n S ps kept Y I w 0 w := ⟨hI, by rw [Dk.settleTo_zero]; exact h.lst, by rw [Dk.zeroTo_zero]; exact h.nws, Kept.refl _ _ _⟩
  have HS0 := Lib.hid hs0
  obtain ⟨z0, hz⟩ : ∃ z0, z0 = wr0 0 := ⟨_, rfl⟩
  have HA := alloc_wr
  rw [← hz] at HA
  have HZ0 := Lib.hid hz
  have HA' := Lib.hid HA
  clear hz HA hs0 h hK hX hI
  obtain ⟨N, hN⟩ : ∃ N, N = ps.length := ⟨_, rfl⟩
  have HN := Lib.hid hN
  rw [← hN] at c2 hfew HS0 H ⊢
  clear hN
  go_enter Tryz.func30, Tryz.ntmps30
  go_wp2
  go_loopw [11] (fun i wr => ∃ j : Nat, j ≤ N ∧ i = .int .i64 j ∧ At d bl bn (.slice b N pcap) n S ps kept Y I w j wr) (fun i _ => N - (intOf i).toNat)
  case atStart => exact ⟨0, by omega, rfl, HS0.out⟩
  case round =>
    clear HS0 c2
    obtain ⟨j, hj, rfl, hA⟩ := hrel
    by_cases hlt : j < N
    · obtain ⟨g, rfl⟩ : ∃ g, b = some ⟨g, 0, none⟩ := by
        rcases H.out.pnd.2 with ⟨_, h0⟩ | ⟨g, _, _, hv, _⟩
        · have := HN.out; omega
        · cases hv; exact ⟨g, rfl⟩
      have hjn : j < ps.length := by rw [← HN.out]; exact hlt
      have hpnd := H.out.pnd
      rw [← HN.out] at hpnd
      have hr0 := (pend_range hpnd H.out.wrs hjn).2
      have hgl := (H.out.pnd.lt g rfl).2
      obtain ⟨x, hx⟩ : ∃ x, x = ps.getD j (0, []) := ⟨_, rfl⟩
      rw [← hx] at hr0
      have hxm : x.1 < n ∧ x.2.length = 64 := by rw [hx]; exact H.out.wrs _ (Dk.getD_mem_of_lt hjn)
      obtain ⟨cs, hcs⟩ : ∃ cs, cs = wrCells x := ⟨_, rfl⟩
      rw [← hcs] at hr0
      have hcl : cs.length = 65 := by rw [hcs, wrCells, List.length_cons, List.length_map, hxm.2]
      have hco : ∀ v ∈ cs, v.oneCell' = true := by rw [hcs]; exact wr_ones _
      -- what is of the world ahead of the round
      have hdr : wr.heap[d]? = w.heap[d]? := hA.frm.block d H.out.lt (by
        simp only [List.mem_append, List.mem_cons, List.not_mem_nil, or_false, not_or]
        exact ⟨⟨H.out.d1, H.out.d2⟩, fun hm => (HX.out d (HK.out.sub d hm)).2.1 rfl⟩)
      have hgr : wr.heap[g]? = w.heap[g]? := hA.frm.block g hgl (by
        simp only [List.mem_append, List.mem_cons, List.not_mem_nil, or_false, not_or]
        exact ⟨⟨(H.out.own g rfl).2.1, (H.out.own g rfl).2.2.1⟩, fun hm => (HX.out g (HK.out.sub g hm)).2.2.2.2 rfl⟩)
      have hr1 : wr.rangeAt g (j * 65) cs := fun k v hv => (World.cell?_of_block (w := w) (a := ⟨g, j * 65 + k, none⟩) hgr).trans (hr0 k v hv)
      have hzr := hA.frm.size
      have HA := Lib.hid hA
      have HR1 := Lib.hid hr1
      have HCL := Lib.hid hcl
      have HCO := Lib.hid hco
      have HCS := Lib.hid hcs
      have HXD := Lib.hid hx
      have HXM := Lib.hid hxm.2
      have hx1 := hxm.1
      have HDR := Lib.hid hdr
      clear hA hr0 hr1 hcl hco hcs hx hxm hdr hgr hpnd hjn
      go_wp2_with (first | (refine wpList_load_mid rfl 111 _ rfl g (j * 65) rfl cs _ HR1.out Tryz.underlying111 rfl (by rw [HCL.out]; exact size_write) ?_; go_frame) | (refine wpList_alloc rfl 111 rfl z0 HA'.out ?_; go_frame) | (refine wpList_store_whole rfl 111 _ _ rfl wr.heap.size cs z0 111 rfl rfl (heap_alloc_new _ _) (by rw [HZ0.out, length_wr0, HCL.out]) (by rw [HCL.out]; exact size_write) HCO.out ?_; intro w1 hg1 hk1 hs1; go_frame) | fail)
      obtain ⟨kj, hkj⟩ : ∃ kj, kj = kept j := ⟨_, rfl⟩
      have hkle : kj ≤ 64 := by rw [hkj]; exact HK.out.le j
      have B1 : Below wr.heap.size wr w1 := by
        have b0 : Below wr.heap.size wr (wr.alloc (.cells z0.toArray 111)) := (Below.refl _ _).alloc (Nat.le_refl _) _
        exact b0.trans ((hk1.out.mono (B := wr.heap.size) (ws := [wr.heap.size]) (by simp) (fun _ _ h => h)).below (by simp))
      have hdw := H.out.lt
      have hlw := lt_of_heap H.out.lst
      have hnw := lt_of_heap H.out.nws
      have hI1 : I j w1 := HK.out.stays j wr w1 HA.out.inv (fun k hk => B1.block k (by have := (HX.out k hk).1; omega))
      have hm1 : Mid d bl bn wr.heap.size Y cs w wr w1 := ⟨(B1.block d (by omega)).trans HDR.out, B1.block bl (by omega), B1.block bn (by omega), hg1.out, HA.out.frm.trans ((Kept.of_below B1).mono hzr (fun _ _ h => h)), Nat.le_refl _⟩
      have hc1 : w1.cell? ⟨d, 1, none⟩ = some (.slice (some ⟨bl, 0, none⟩) n n) := by rw [World.cell?_of_block (w := w) hm1.dd]; exact H.out.c1
      have hcb : w1.cell? ⟨wr.heap.size, 0, none⟩ = some (.int .i64 x.1) := by rw [cell_of_list hm1.bx, HCS.out]; rfl
      have hn2 := H.out.n2
      have HI1 := Lib.hid hI1
      have HM1 := Lib.hid hm1
      have HKJ := Lib.hid hkj
      have hXX := Lib.hid (show ∀ x ∈ X, x < w.heap.size ∧ x ≠ d ∧ x ≠ bl ∧ x ≠ bn from fun x hx => ⟨(HX.out x hx).1, (HX.out x hx).2.1, (HX.out x hx).2.2.1, (HX.out x hx).2.2.2.1⟩)
      have hYY := Lib.hid (show ∀ y ∈ Y, y < w.heap.size ∧ y ≠ d ∧ y ≠ bl ∧ y ≠ bn from fun y hy => hXX.out y (HK.out.sub y hy))
      have HCALL : Hid (∀ v, I j v → Calls Tryz.prog f (#[.int .i64 j] ++ cap) v fun e w' => e = .returned (.int .i64 kj) ∧ (I (j + 1) w' ∧ Kept v.heap.size Y v w')) := Lib.hid (by rw [HKJ.out]; exact fun v hv => HK.out.call j v (by omega) hv)
      have HB1 := Lib.hid B1
      have hsl : ∀ v : World, (Instr.sliceAt 109 (.pointer (some ⟨wr.heap.size, 1, none⟩)) none (some (.int .i64 (kj : Int))) none).run Tryz.prog v = .ok (.slice (some ⟨wr.heap.size, 1, none⟩) kj 64) v := fun v => run_slice_to v 109 64 5 wr.heap.size 1 kj Tryz.underlying109 (by kernel_rfl) hkle
      obtain ⟨A, C, hA, hS1, hS2⟩ := sect_split (S := Dk.settleTo S ps kept j) (a := x.1) (Dk.settleTo_wide kept H.out.wide (by rw [H.out.len]; exact H.out.wrs) j (by rw [← HN.out]; exact hj)) (by rw [Dk.length_settleTo, H.out.len]; exact hx1)
      obtain ⟨old, hold⟩ : ∃ old, old = (Dk.settleTo S ps kept j).getD x.1 [] := ⟨_, rfl⟩
      have hol : old.length = 64 := by
        have hlt' : x.1 < (Dk.settleTo S ps kept j).length := by rw [Dk.length_settleTo, H.out.len]; exact hx1
        rw [hold, List.getD, List.getElem?_eq_getElem hlt']
        exact Dk.settleTo_wide kept H.out.wide (by rw [H.out.len]; exact H.out.wrs) j (by rw [← HN.out]; exact hj) _ (List.getElem_mem _)
      rw [← hold] at hS1
      obtain ⟨cp, hcp⟩ : ∃ cp, cp = (x.2.take kj).map u8v := ⟨_, rfl⟩
      have hcpl : cp.length = kj := by rw [hcp, List.length_map, List.length_take, HXM.out]; omega
      have hcpo : ∀ v ∈ cp, v.oneCell' = true := by rw [hcp]; intro v hv; obtain ⟨y, _, rfl⟩ := List.mem_map.1 hv; rfl
      have hbl1 : wr.heap[bl]? = some (.cells (A ++ ((old.take kj).map u8v ++ ((old.drop kj).map u8v ++ C))).toArray 109 (0, 0)) := by
        rw [HA.out.lst, hS1]
        congr 2
        rw [← List.append_assoc ((old.take kj).map u8v), ← List.map_append, List.take_append_drop]
      have hrg : ∀ v : World, v.heap[wr.heap.size]? = some (.cells cs.toArray 111 (0, 0)) → v.rangeAt wr.heap.size 1 cp := fun v hv => by
        refine range_mid (A := [natv x.1]) (C := (x.2.drop kj).map u8v) (t := 111) (fr := (0, 0)) ?_ rfl
        rw [hv, HCS.out, wrCells, hcp]
        congr 2
        rw [← List.map_append, List.take_append_drop]; rfl
      have HBL := Lib.hid hbl1
      have HRG := Lib.hid hrg
      have HCP := Lib.hid hcp
      have HCPL := Lib.hid hcpl
      have HCPO := Lib.hid hcpo
      have HS1 := Lib.hid hS1
      have HS2 := Lib.hid hS2
      have HOLD := Lib.hid hold
      have HOL := Lib.hid hol
      have HAL := Lib.hid hA
      clear hI1 hm1 hkj B1 hg1 hk1 hs1 hbl1 hrg hcp hcpl hcpo hS1 hS2 hold hol hA
      have hc1d : w1.drew.cell? ⟨d, 1, none⟩ = some (.slice (some ⟨bl, 0, none⟩) n n) := hc1
      have hcbd : w1.drew.cell? ⟨wr.heap.size, 0, none⟩ = some (.int .i64 x.1) := hcb
      go_region_held_law (fun v => v.cell? ⟨d, 1, none⟩ = some (.slice (some ⟨bl, 0, none⟩) n n) ∧ v.cell? ⟨wr.heap.size, 0, none⟩ = some (.int .i64 x.1)) (first | exact ⟨hc4, hcb4⟩ | exact ⟨hc3, hcb3⟩ | exact ⟨hc1d, hcbd⟩) (first | (refine step_call_func rfl (.tmp 25) (.tmp 26) _ rfl f cap (.int .i64 j) rfl rfl HK.out.enters (.int .i64 kj) _ (HCALL.out _ (HK.out.stays j _ _ HI1.out (fun k _ => rfl))) (some 27) rfl ?_; intro w3 h3; have m3 := Lib.hid (HM1.out.drew.kept h3.out.2 hdw hlw hnw hzr hYY.out); have hc3 : w3.cell? ⟨d, 1, none⟩ = some (.slice (some ⟨bl, 0, none⟩) n n) := (World.cell?_of_block (w := w) m3.out.dd).trans H.out.c1; have hcb3 : w3.cell? ⟨wr.heap.size, 0, none⟩ = some (.int .i64 x.1) := by rw [cell_of_list m3.out.bx, HCS.out]; rfl) | (refine step_copy_mid rfl (.tmp 23) (.tmp 28) 59 59 rfl 5 Tryz.underlying59 (by kernel_rfl) bl (x.1 * 64) 64 64 wr.heap.size 1 kj 64 rfl rfl cp (by rw [HCPL.out]; exact (Nat.min_eq_left hkle).symm) (HRG.out _ m3.out.bx) HCPO.out A ((old.take kj).map u8v) ((old.drop kj).map u8v ++ C) 109 (m3.out.ll.trans HBL.out) HAL.out (by rw [List.length_map, List.length_take, HOL.out, HCPL.out]; omega) (some 29) rfl ?_; intro w4 hg4 hk4; have hc4 : w4.cell? ⟨d, 1, none⟩ = some (.slice (some ⟨bl, 0, none⟩) n n) := (hk4.out.cell (p := ⟨d, 1, none⟩) (lt_of_heap (m3.out.dd.trans H.out.obj)) (by simp; exact H.out.d1)).trans hc3; have hcb4 : w4.cell? ⟨wr.heap.size, 0, none⟩ = some (.int .i64 x.1) := (hk4.out.cell (p := ⟨wr.heap.size, 0, none⟩) (lt_of_heap m3.out.bx) (by simp; omega)).trans hcb3))
      have hd4 : w4.heap[d]? = w.heap[d]? := (hk4.out.block d (lt_of_heap (m3.out.dd.trans H.out.obj)) (by simp; exact H.out.d1)).trans m3.out.dd
      have hn4 : w4.heap[bn]? = some (.cells ((Dk.zeroTo (Dk.news n ps) ps j).map natv).toArray 3 (0, 0)) := (hk4.out.block bn (lt_of_heap (m3.out.nn.trans HA.out.nws)) (by simp; exact fun e => H.out.d3 e.symm)).trans (m3.out.nn.trans HA.out.nws)
      have k3 : w4.cell? ⟨d, 3, none⟩ = some (.slice (some ⟨bn, 0, none⟩) n n) := (World.cell?_of_block (w := w) hd4).trans H.out.c3
      have kn := cell_nat hn4 (by rw [Dk.length_zeroTo, Dk.length_news]; exact hx1) rfl
      have kf := free_of_list hn4 x.1
      have HN4 := Lib.hid hn4
      clear hc1 hcb hc1d hcbd hc3 hcb3 hc4 hn4 hd4 hsl
      go_wp2
      have hfin : At d bl bn (.slice (some ⟨g, 0, none⟩) N pcap) n S ps kept Y I w (j + 1) (w4.setCell ⟨bn, x.1, none⟩ (.int .i64 0)).drew := by
        have e5 : ∀ k, k ≠ bn → (w4.setCell ⟨bn, x.1, none⟩ (.int .i64 0)).drew.heap[k]? = w4.heap[k]? := fun k hk => by rw [heap_drew, heap_setCell_other _ _ _ _ hk]
        refine ⟨?_, ?_, ?_, ?_⟩
        · refine HK.out.stays (j + 1) w3 _ h3.out.1 (fun k hk => ?_)
          have := hXX.out k hk
          rw [e5 k this.2.2.2]
          exact hk4.out.block k (by have := m3.out.fr.size; omega) (by simp; exact this.2.2.1)
        · rw [e5 bl H.out.d3, hg4.out, Dk.settleTo_succ, ← HXD.out, Dk.put_eq, HS2.out, ← HOLD.out, ← HKJ.out, List.map_append, HCP.out, List.append_assoc]
        · rw [Dk.zeroTo_succ, ← HXD.out, List.map_set, heap_drew]
          exact set_list HN4.out x.1 _
        · have h1 := m3.out.fr
          have h2 := h1.size
          have h3' : Kept w.heap.size ([bl, bn] ++ Y) w w4 := h1.trans (hk4.out.mono h2 (fun k _ hm => by simp at hm; simp [hm]))
          exact (h3'.setCell (p := ⟨bn, x.1, none⟩) (by simp) _).drew
      have HFIN := Lib.hid hfin
      clear hfin
      go_region
      all_goals
        go_wp2
        go_roundw
        case rel => exact ⟨j + 1, by omega, by go_num, HFIN.out⟩
        case measure => simp [intOf]; omega
    · obtain rfl : j = N := by omega
      have hd : wr.heap[d]? = w.heap[d]? := hA.frm.block d H.out.lt (by
        simp only [List.mem_append, List.mem_cons, List.not_mem_nil, or_false, not_or]
        exact ⟨⟨H.out.d1, H.out.d2⟩, fun hm => (HX.out d (HK.out.sub d hm)).2.1 rfl⟩)
      have ho := hd.trans H.out.obj
      have c2 : wr.cell? ⟨d, 2, none⟩ = some (.slice b j pcap) := by rw [cell_of_list ho]; rfl
      have f2 := free_of_list ho 2
      have HO := Lib.hid ho
      have HA := Lib.hid hA
      clear hd ho hA
      go_wp2
      go_end0
      have e5 : ∀ k, k ≠ d → (wr.setCell ⟨d, 2, none⟩ (.slice none 0 0)).heap[k]? = wr.heap[k]? := fun k hk => by rw [heap_setCell_other _ _ _ _ hk]
      refine ⟨rfl, ⟨set_list HO.out 2 _, ?_, ?_, World.ownsRow_nil _ _ _ _, ?_, H.out.n1, H.out.n2, ?_, by simp, by simp, H.out.d1, H.out.d2, H.out.d3, H.out.p0, H.out.p1, H.out.p2, fun g hg => by simp [Value.ownBlock] at hg⟩, ?_, ?_⟩
      · rw [e5 bl (fun e => H.out.d1 e.symm)]; exact HA.out.lst
      · rw [e5 bn (fun e => H.out.d2 e.symm), HA.out.nws, Dk.news_nil, HN.out, Dk.zeroTo_all]
      · rw [Dk.length_settleTo, H.out.len]
      · exact Dk.settleTo_wide kept H.out.wide (by rw [H.out.len]; exact H.out.wrs) j (by rw [← HN.out]; exact Nat.le_refl _)
      · exact HK.out.stays j wr _ HA.out.inv (fun k hk => e5 k (HX.out k hk).2.1)
      · exact (HA.out.frm.mono (Nat.le_refl _) (fun k _ hm => List.mem_cons_of_mem _ hm)).setCell (p := ⟨d, 2, none⟩) (by simp) _

/-! Flushing. -/
theorem keeps_flush : Keeps 31 #[] (fun _ => 64) [] [] (fun _ _ => True) where
  sub := by simp
  le := fun _ => Nat.le_refl _
  enters := fun args w => by kernel_rfl
  stays := fun _ _ _ _ _ => trivial
  call := fun j w _ _ => by
    go_enter Tryz.func31, Tryz.ntmps31
    go_wp2
    go_ret
    exact ⟨rfl, trivial, Kept.refl _ _ _⟩
set_option maxHeartbeats 1000000 in
theorem Flush_ok (d p : Nat) (F : List Nat) (n : Nat) (S : List (List UInt8)) (ps : List Dk.Wr) (life fuse acts : Int)
    (hf : fuse ≠ 0) (hf1 : -1 ≤ fuse) (hf2 : fuse ≤ 9223372036854775807) (ha0 : 0 ≤ acts) (ha1 : acts ≤ 1000000000000) (w : World) (h : Live d p F n S ps life w) (hp : PowerAt p false fuse acts w) :
    Calls Tryz.prog 9 #[.pointer (some ⟨d, 0, none⟩)] w fun e w' => e = .returned .nilIface ∧
      (Live d p F n (Dk.settleTo S ps (fun _ => 64) ps.length) [] life w' ∧ PowerAt p false (less fuse) (acts + 1) w' ∧ Kept w.heap.size (p :: F) w w') := by
  obtain ⟨bl, bn, pv, h, k1, k2, k3, k4, k5, k6⟩ := h
  have c0 := h.c0
  have hpl := hp.lt
  have H := Lib.hid h
  have HP := Lib.hid hp
  have HZ := Lib.hid hf
  have K5 := Lib.hid k5
  have K := Lib.hid (And.intro k1 (And.intro k2 (And.intro k3 (And.intro k4 k6))))
  clear h hp hf k1 k2 k3 k4 k5 k6
  go_enter Tryz.func9, Tryz.ntmps9
  go_wp2_with (first | (go_at_call 25; refine (ready_ok d p bl bn pv n S ps life fuse acts _ H.out HP.out).mono ?_; rintro e w' ⟨rfl, rfl⟩) | fail)
  refine (act_ok p fuse acts HZ.out hf1 hf2 ha0 ha1 _ HP.out).mono ?_
  rintro e w1 ⟨rfl, hp1, hk1⟩
  have hz1 := hk1.size
  obtain ⟨q1, q2, q3, q4, q6⟩ := K.out
  have np : ∀ x ∈ F, x ≠ p := fun x hx e => K5.out (e ▸ hx)
  have h1 : LiveAt d p bl bn pv n S ps life w1 := H.out.keep (hk1.block d (q6 d q1) (by simp; exact np d q1)) (hk1.block bl (q6 bl q2) (by simp; exact np bl q2)) (hk1.block bn (q6 bn q3) (by simp; exact np bn q3))
    (fun g hg => hk1.block g (q6 g (q4 g hg)) (by simp; exact np g (q4 g hg)))
  have H1 := Lib.hid h1
  have HP1 := Lib.hid hp1
  have HK1 := Lib.hid hk1
  have Q6 := Lib.hid q6
  clear h1 hp1 hk1 q4 q6 np c0
  go_wp2_with fail
  refine (settle_any 31 #[] (fun _ => 64) [] [] (fun _ _ => True) keeps_flush d p bl bn pv n S ps life _ H1.out trivial (by simp)).mono ?_
  rintro e w2 ⟨rfl, h2, _, hk2⟩
  have H2 := Lib.hid h2
  have HK2 := Lib.hid hk2
  clear h2 hk2
  go_wp2_with fail
  go_ret
  have hz2 := HK2.out.size
  have hin : ∀ x, x ∈ [d, bl, bn] ++ [] → x ∈ F := fun x hx => by
    simp only [List.append_nil, List.mem_cons, List.not_mem_nil, or_false] at hx
    rcases hx with rfl | rfl | rfl <;> assumption
  refine ⟨rfl, ⟨bl, bn, _, H2.out, q1, q2, q3, fun g hg => by simp [Value.ownBlock] at hg, K5.out, fun x hx => by have := Q6.out x hx; omega⟩, ?_, ?_⟩
  · exact HP1.out.keep (HK2.out.block p (by omega) (fun hm => K5.out (hin p hm)))
  · exact (HK1.out.mono (Nat.le_refl _) (fun k _ hk => by simp at hk; simp [hk])).trans (HK2.out.mono hz1 (fun k _ hk => by simp [hin k hk]))
end Go.Proofs.YtbljhodnpddpiaaGreatDoor

/- The walks of what is lost. -/
namespace Go.Proofs.YtbljhodnpddpiaaGreatDoor
open Go.RowKit

/-- A list of yes and no as a slice has it. -/
structure Yes (kv : Value) (kb ko : Nat) (ks : List Nat) (keep : List Bool) (w : World) : Prop where
  form : ∃ a cap, kv = .slice a keep.length cap ∧ (keep.length = 0 ∨ a = some ⟨kb, ko, none⟩)
  ins : keep.length = 0 ∨ kb ∈ ks
  cells : ∀ i, i < keep.length → w.cell? ⟨kb, ko + i, none⟩ = some (.bool (keep.getD i false))
  few : keep.length ≤ 9223372036854775807
theorem Yes.keep {kv : Value} {kb ko : Nat} {ks : List Nat} {keep : List Bool} {w w' : World} (h : Yes kv kb ko ks keep w) (hk : ∀ k ∈ ks, w'.heap[k]? = w.heap[k]?) : Yes kv kb ko ks keep w' :=
  ⟨h.form, h.ins, fun i hi => (World.cell?_of_block (w := w) (a := ⟨kb, ko + i, none⟩) (hk kb (by rcases h.ins with h0 | h0; omega; exact h0))).trans (h.cells i hi), h.few⟩
/-- What the closure has captured. -/
structure Lost (B : Nat) (kv : Value) (kb ko : Nat) (ks : List Nat) (keep : List Bool) (torn j : Nat) (w : World) : Prop where
  one : w.heap[B]? = some (.cells [kv].toArray 46 (0, 0))
  two : w.heap[B + 1]? = some (.cells [Value.int .i64 (Dk.tornAt keep torn j : Nat)].toArray 3 (0, 0))
  yes : Yes kv kb ko ks keep w

set_option maxHeartbeats 1000000 in
theorem keeps_lose (B : Nat) (kv : Value) (kb ko : Nat) (ks : List Nat) (keep : List Bool) (torn : Nat) (ht : torn ≤ 64) (hks : ∀ k ∈ ks, k ≠ B + 1) :
    Keeps 63 #[.pointer (some ⟨B, 0, none⟩), .pointer (some ⟨B + 1, 0, none⟩)] (Dk.keptAt keep torn) ([B, B + 1] ++ ks) [B + 1] (Lost B kv kb ko ks keep torn) where
  sub := by simp
  le := Dk.keptAt_le keep torn ht
  enters := fun args w => by kernel_rfl
  stays := fun j w w' h hk => ⟨(hk B (by simp)).trans h.one, (hk (B + 1) (by simp)).trans h.two, h.yes.keep (fun k hk' => hk k (by simp [hk']))⟩
  call := fun j w hj h => by
    obtain ⟨a, cap, rfl, ha⟩ := h.yes.form
    have c1 : w.cell? ⟨B, 0, none⟩ = some (.slice a keep.length cap) := by rw [cell_of_list h.one]; rfl
    obtain ⟨tn, htn⟩ : ∃ tn, tn = Dk.tornAt keep torn j := ⟨_, rfl⟩
    have c2 : w.cell? ⟨B + 1, 0, none⟩ = some (.int .i64 tn) := by rw [cell_of_list h.two, ← htn]; rfl
    have f2 := free_of_list h.two 0
    have hfew := h.yes.few
    have hcells := h.yes.cells
    have H := Lib.hid h
    have HT := Lib.hid htn
    have HA := Lib.hid ha
    have HCE := Lib.hid hcells
    obtain ⟨N, hN⟩ : ∃ N, N = keep.length := ⟨_, rfl⟩
    have HN := Lib.hid hN
    rw [← hN] at c1 hfew
    clear h htn ha hcells
    have fin : ∀ w', w' = w.setCell ⟨B + 1, 0, none⟩ (.int .i64 0) → keep.getD j false = false → Lost B (.slice a keep.length cap) kb ko ks keep torn (j + 1) w' ∧ Kept w.heap.size [B + 1] w w' := by
      rintro w' rfl hb
      have e5 : ∀ k, k ≠ B + 1 → (w.setCell ⟨B + 1, 0, none⟩ (.int .i64 0)).heap[k]? = w.heap[k]? := fun k hk => by rw [heap_setCell_other _ _ _ _ hk]
      refine ⟨⟨(e5 B (by omega)).trans H.out.one, ?_, H.out.yes.keep (fun k hk => e5 k (hks k hk))⟩, (Kept.refl _ _ _).setCell (by simp) _⟩
      rw [Dk.tornAt_lost hb]
      exact set_list H.out.two 0 _
    have FIN := Lib.hid fin
    clear fin hN
    by_cases hlt : j < N
    · obtain rfl : a = some ⟨kb, ko, none⟩ := by have := HN.out; rcases HA.out with h | h; omega; exact h
      have cj := HCE.out j (by rw [← HN.out]; exact hlt)
      cases hb : keep.getD j false with
      | true =>
        rw [hb] at cj
        have HB := Lib.hid hb
        clear hb
        go_enter Tryz.func63, Tryz.ntmps63
        go_wp2
        go_ret
        refine ⟨?_, ⟨H.out.one, ?_, H.out.yes⟩, Kept.refl _ _ _⟩
        · rw [Dk.keptAt_kept HB.out]; rfl
        · rw [Dk.tornAt_kept HB.out]; exact H.out.two
      | false =>
        rw [hb] at cj
        have HB := Lib.hid hb
        clear hb
        go_enter Tryz.func63, Tryz.ntmps63
        go_wp2
        go_ret
        refine ⟨?_, FIN.out _ rfl HB.out⟩
        rw [Dk.keptAt_lost HB.out, ← HT.out]; rfl
    · have hb : keep.getD j false = false := by rw [List.getD, List.getElem?_eq_none (by rw [← HN.out]; omega)]; rfl
      have HB := Lib.hid hb
      clear hb
      have hd : decide ((j : Int) < (N : Int)) = false := by rw [decide_eq_false_iff_not]; omega
      go_enter Tryz.func63, Tryz.ntmps63
      go_wp2
      go_ret
      refine ⟨?_, FIN.out _ rfl HB.out⟩
      rw [Dk.keptAt_lost HB.out, ← HT.out]; rfl

theorem lost_start {kv : Value} {kb ko : Nat} {ks : List Nat} {keep : List Bool} {t c : Int} {w : World} (hy : Yes kv kb ko ks keep w) (hks : ∀ k ∈ ks, k < w.heap.size) (hc : c = (Dk.clamp t : Nat)) :
    Lost w.heap.size kv kb ko ks keep (Dk.clamp t) 0 ((w.alloc (.cells #[kv] 46)).alloc (.cells #[.int .i64 c] 3)) := by
  have hz : (w.alloc (.cells #[kv] 46)).heap.size = w.heap.size + 1 := World.size_alloc _ _
  refine ⟨?_, ?_, hy.keep (fun k hk => ?_)⟩
  · rw [heap_alloc_old _ _ (by omega)]; exact heap_alloc_new _ _
  · rw [Dk.tornAt_zero, ← hc, ← hz]; exact heap_alloc_new _ _
  · have := hks k hk
    rw [heap_alloc_old _ _ (by omega), heap_alloc_old _ _ (by omega)]
theorem clamp_neg {t : Int} (h : t < 0) : (0 : Int) = (Dk.clamp t : Nat) := by rw [Dk.clamp_eq]; omega
theorem clamp_mid {t : Int} (h0 : 0 ≤ t) (h : t ≤ 64) : t = (Dk.clamp t : Nat) := by rw [Dk.clamp_eq]; omega
theorem clamp_big {t : Int} (h : 64 < t) : (64 : Int) = (Dk.clamp t : Nat) := by rw [Dk.clamp_eq]; omega
theorem lose_tail (d p bl bn : Nat) (pv : Value) (n : Nat) (S : List (List UInt8)) (ps : List Dk.Wr) (life : Int) (kv : Value) (kb ko : Nat) (ks : List Nat) (keep : List Bool) (t c : Int) (hc : c = (Dk.clamp t : Nat)) (w : World) (h : LiveAt d p bl bn pv n S ps life w)
    (hy : Yes kv kb ko ks keep w) (hks : ∀ k ∈ ks, k < w.heap.size ∧ k ≠ d ∧ k ≠ bl ∧ k ≠ bn ∧ pv.ownBlock ≠ some k) :
    Calls Tryz.prog 30 #[.pointer (some ⟨d, 1, none⟩), .func (.func 63) #[] #[.pointer (some ⟨w.heap.size, 0, none⟩), .pointer (some ⟨w.heap.size + 1, 0, none⟩)]] ((w.alloc (.cells #[kv] 46)).alloc (.cells #[.int .i64 c] 3)) fun e w' =>
      e = .returned (.tuple #[]) ∧ LiveAt d p bl bn (.slice none 0 0) n (Dk.settleTo S ps (Dk.keptAt keep (Dk.clamp t)) ps.length) [] life w' ∧ Kept w.heap.size [d, bl, bn] w w' := by
  have hb : Below w.heap.size w ((w.alloc (.cells #[kv] 46)).alloc (.cells #[.int .i64 c] 3)) := ((Below.refl _ _).alloc (Nat.le_refl _) _).alloc (by simp) _
  have h1 := h.lt
  have h2 := lt_of_heap h.lst
  have h3 := lt_of_heap h.nws
  have hL : LiveAt d p bl bn pv n S ps life ((w.alloc (.cells #[kv] 46)).alloc (.cells #[.int .i64 c] 3)) := h.keep (hb.block _ h1) (hb.block _ h2) (hb.block _ h3) (fun g hg => hb.block _ (h.pnd.lt g hg).2)
  have hz : ((w.alloc (.cells #[kv] 46)).alloc (.cells #[.int .i64 c] 3)).heap.size = w.heap.size + 2 := by rw [World.size_alloc, World.size_alloc]
  refine (settle_any 63 _ _ _ _ _ (keeps_lose w.heap.size kv kb ko ks keep (Dk.clamp t) (Dk.clamp_le t) (fun k hk => by have := (hks k hk).1; omega)) d p bl bn pv n S ps life _ hL (lost_start hy (fun k hk => (hks k hk).1) hc) ?_).mono ?_
  · intro x hx
    simp only [List.mem_append, List.mem_cons, List.not_mem_nil, or_false] at hx
    rw [hz]
    rcases hx with (rfl | rfl) | hx
    · exact ⟨by omega, by omega, by omega, by omega, fun e => by have := (h.pnd.lt _ e).2; omega⟩
    · exact ⟨by omega, by omega, by omega, by omega, fun e => by have := (h.pnd.lt _ e).2; omega⟩
    · have := hks x hx
      exact ⟨by omega, this.2.1, this.2.2.1, this.2.2.2.1, this.2.2.2.2⟩
  · rintro e w' ⟨rfl, hl, _, hk⟩
    refine ⟨rfl, hl, (Kept.of_below hb).trans (hk.mono (by omega) (fun k hk1 hm => ?_))⟩
    simp only [List.mem_append, List.mem_cons, List.not_mem_nil, or_false] at hm ⊢
    omega
set_option maxRecDepth 100000 in
set_option maxHeartbeats 1000000 in
theorem Lose_any (d p : Nat) (F : List Nat) (n : Nat) (S : List (List UInt8)) (ps : List Dk.Wr) (life : Int) (kv : Value) (kb ko : Nat) (ks : List Nat) (keep : List Bool) (t : Int) (w : World) (h : Live d p F n S ps life w)
    (hy : Yes kv kb ko ks keep w) (hks : ∀ k ∈ ks, k < w.heap.size ∧ k ∉ F) :
    Calls Tryz.prog 42 #[.pointer (some ⟨d, 0, none⟩), kv, .int .i64 t] w fun e w' => e = .returned (.tuple #[]) ∧
      (Live d p F n (Dk.settleTo S ps (Dk.keptAt keep (Dk.clamp t)) ps.length) [] life w' ∧ Kept w.heap.size F w w') := by
  obtain ⟨bl, bn, pv, h, k1, k2, k3, k4, k5, k6⟩ := h
  have hT := fun c hc => lose_tail d p bl bn pv n S ps life kv kb ko ks keep t c hc w h hy (fun k hk => ⟨(hks k hk).1, fun e => (hks k hk).2 (e ▸ k1), fun e => (hks k hk).2 (e ▸ k2), fun e => (hks k hk).2 (e ▸ k3), fun e => (hks k hk).2 (k4 k e)⟩)
  have HT := Lib.hid hT
  have FIN : Hid (∀ w', LiveAt d p bl bn (.slice none 0 0) n (Dk.settleTo S ps (Dk.keptAt keep (Dk.clamp t)) ps.length) [] life w' → Kept w.heap.size [d, bl, bn] w w' →
      Live d p F n (Dk.settleTo S ps (Dk.keptAt keep (Dk.clamp t)) ps.length) [] life w' ∧ Kept w.heap.size F w w') := Lib.hid (fun w' hl hk => by
    have hz := hk.size
    refine ⟨⟨bl, bn, _, hl, k1, k2, k3, fun g hg => by simp [Value.ownBlock] at hg, k5, fun x hx => by have := k6 x hx; omega⟩, hk.mono (Nat.le_refl _) (fun x _ hx => ?_)⟩
    simp only [List.mem_cons, List.not_mem_nil, or_false] at hx
    rcases hx with rfl | rfl | rfl <;> assumption)
  obtain ⟨a, cap, rfl, ha⟩ := hy.form
  clear h k1 k2 k3 k4 k5 k6 ha hy hks hT
  by_cases h0 : t < 0
  · go_enter Tryz.func42, Tryz.ntmps42
    go_wp2_with fail
    refine (HT.out 0 (clamp_neg h0)).mono ?_
    rintro e w2 ⟨rfl, hl, hk⟩
    have HL := Lib.hid hl
    have HK := Lib.hid hk
    clear hl hk
    go_wp2_with fail
    go_end0
    exact ⟨rfl, FIN.out _ HL.out HK.out⟩
  · have h0' : 0 ≤ t := by omega
    clear h0
    by_cases h1 : t ≤ 64
    · go_enter Tryz.func42, Tryz.ntmps42
      go_wp2_with fail
      refine (HT.out t (clamp_mid h0' h1)).mono ?_
      rintro e w2 ⟨rfl, hl, hk⟩
      have HL := Lib.hid hl
      have HK := Lib.hid hk
      clear hl hk
      go_wp2_with fail
      go_end0
      exact ⟨rfl, FIN.out _ HL.out HK.out⟩
    · have h1' : 64 < t := by omega
      clear h1
      go_enter Tryz.func42, Tryz.ntmps42
      go_wp2_with fail
      refine (HT.out 64 (clamp_big h1')).mono ?_
      rintro e w2 ⟨rfl, hl, hk⟩
      have HL := Lib.hid hl
      have HK := Lib.hid hk
      clear hl hk
      go_wp2_with fail
      go_end0
      exact ⟨rfl, FIN.out _ HL.out HK.out⟩
end Go.Proofs.YtbljhodnpddpiaaGreatDoor
