/- The walks of a sector's writing. -/
import Derived.Test.YtmobjpandmdmdaaGreatDoorDRead
import Derived.Test.YtmobjpandmdmdaaGreatDoorDLaws
namespace Go.Proofs.YtmobjpandmdmdaaGreatDoor
open Go.RowKit

/-- A write's cells, before its bytes are laid in. -/
def wr0 (a : Nat) : List Value := natv a :: List.replicate 64 (.int .u8 0)
theorem built_wr (a : Nat) : Tryz.prog.built 106 [(0, .int .i64 (a : Int))] = some (wr0 a).toArray := by kernel_rfl
theorem alloc_wr (w : World) : (Instr.alloc 106 true (.tuple #[])).run Tryz.prog w = .ok (.pointer (some ⟨w.heap.size, 0, none⟩)) (w.alloc (.cells (wr0 0).toArray 106)) := by kernel_rfl
theorem length_wr0 (a : Nat) : (wr0 a).length = 65 := by simp [wr0]
theorem size_write : (Tryz.prog.info? 106).map (·.size) = some 65 := by kernel_rfl
theorem infoWrite : (Tryz.prog.info? 106).map (fun i => (i.zero, i.size, i.bytes)) = some (some (.agg (wr0 0).toArray), 65, 72) := by kernel_rfl
theorem wr0_ones (a : Nat) : ∀ v ∈ wr0 a, v.oneCell' = true := by
  intro v hv
  rw [wr0] at hv
  rcases List.mem_cons.1 hv with rfl | h
  · rfl
  · rw [List.eq_of_mem_replicate h]; rfl
theorem elem_write {cs : List Value} (h : cs.length = 65) : ElemRow Tryz.prog 62 (.agg cs.toArray) := by
  obtain ⟨i0, hi, hz0, hz1, hz2⟩ := info_parts infoWrite
  exact ⟨106, i0, _, Tryz.underlying62, hi, hz0, by rw [hz1]; simp [Value.cells, wr0], by omega, by omega, by rw [hz1]; simpa [Value.cells] using h⟩
attribute [local go_sem ↓] run_load_part run_buildSlice_one

theorem blk5 {w2 w5 : World} {o : Obj} {row : Option Nat} (h : ((w2.alloc o).drew).grownBy w5 row) {x : Nat} (hx : x < w2.heap.size) (hr : row ≠ some x) : w5.heap[x]? = w2.heap[x]? :=
  (h.block x (by simp; omega) (fun e => hr e.symm)).trans (heap_alloc_old w2 o hx)
theorem LiveAt.own_ne {d p bl bn : Nat} {pv : Value} {n : Nat} {S : List (List UInt8)} {ps : List Dk.Wr} {life : Int} {w : World} (h : LiveAt d p bl bn pv n S ps life w) : pv.ownBlock ≠ some d ∧ pv.ownBlock ≠ some bl ∧ pv.ownBlock ≠ some bn ∧ pv.ownBlock ≠ some p :=
  ⟨fun e => (h.own _ e).1 rfl, fun e => (h.own _ e).2.1 rfl, fun e => (h.own _ e).2.2.1 rfl, fun e => (h.own _ e).2.2.2 rfl⟩
/-- The disk's cells behind the append. -/
def objOf (p bl bn g5 N cap5 n : Nat) (life : Int) : List Value := [Value.pointer (some ⟨p, 0, none⟩), .slice (some ⟨bl, 0, none⟩) n n, .slice (some ⟨g5, 0, none⟩) N cap5, .slice (some ⟨bn, 0, none⟩) n n, natv n, .int .i64 life]
theorem write_obj {d p bl bn n g5 cap5 : Nat} {pv : Value} {S : List (List UInt8)} {ps : List Dk.Wr} {life : Int} {w2 w5 : World} {o : Obj} (h : LiveAt d p bl bn pv n S ps life w2) (hg : ((w2.alloc o).drew).grownBy w5 pv.ownBlock) :
    (w5.setCell ⟨d, 2, none⟩ (.slice (some ⟨g5, 0, none⟩) (ps.length + 1) cap5)).heap[d]? = some (.cells (objOf p bl bn g5 (ps.length + 1) cap5 n life).toArray 66 (0, 0)) ∧
    (w5.setCell ⟨d, 2, none⟩ (.slice (some ⟨g5, 0, none⟩) (ps.length + 1) cap5)).heap[bn]? = some (.cells ((Dk.news n ps).map natv).toArray 3 (0, 0)) := by
  constructor
  · exact set_list ((blk5 hg h.lt h.own_ne.1).trans h.obj) 2 _
  · rw [heap_setCell_other _ _ _ _ (fun e => h.d2 e.symm)]
    exact (blk5 hg (lt_of_heap h.nws) h.own_ne.2.2.1).trans h.nws
theorem write_live {d p bl bn n g5 cap5 a : Nat} {pv : Value} {S : List (List UInt8)} {ps : List Dk.Wr} {life : Int} {w2 w5 w6 w7 : World} {o : Obj} {cs : List Value} {l : List UInt8} (h : LiveAt d p bl bn pv n S ps life w2)
    (hown : w5.ownsRow 0 106 65 (.slice (some ⟨g5, 0, none⟩) (ps.length + 1) cap5) (ps.length + 1) (pendCells ps ++ cs)) (hcs : cs = wrCells (a, l))
    (hg : ((w2.alloc o).drew).grownBy w5 pv.ownBlock) (hw : pv.ownBlock = some g5 ∨ ((w2.alloc o).drew).heap.size ≤ g5) (ha : a < n) (hl : l.length = 64) (hf : ps.length < 1000000) (hp : p < w2.heap.size)
    (h6 : w6 = w5.setCell ⟨d, 2, none⟩ (.slice (some ⟨g5, 0, none⟩) (ps.length + 1) cap5)) (h7 : w7 = (w6.setCell ⟨bn, a, none⟩ (.int .i64 ((ps.length : Int) + 1))).drew) :
    LiveAt d p bl bn (.slice (some ⟨g5, 0, none⟩) (ps.length + 1) cap5) n S (ps ++ [(a, l)]) life w7 ∧ Kept w2.heap.size ([d, bn] ++ pv.ownBlock.toList) w2 w7 := by
  obtain ⟨o6, n6⟩ := write_obj (g5 := g5) (cap5 := cap5) h hg
  rw [← h6] at o6 n6
  have hgne : g5 ≠ d ∧ g5 ≠ bl ∧ g5 ≠ bn ∧ g5 ≠ p := by
    rcases hw with hw | hw
    · exact h.own _ hw
    · have := h.lt
      have := lt_of_heap h.lst
      have := lt_of_heap h.nws
      simp at hw
      omega
  have hd7 : w7.heap[d]? = w6.heap[d]? := by rw [h7, heap_drew, heap_setCell_other _ _ _ _ h.d2]
  have hl7 : w7.heap[bl]? = w2.heap[bl]? := by
    rw [h7, heap_drew, heap_setCell_other _ _ _ _ h.d3, h6, heap_setCell_other _ _ _ _ (fun e => h.d1 e.symm)]
    exact blk5 hg (lt_of_heap h.lst) h.own_ne.2.1
  have hn7 : w7.heap[bn]? = some (.cells ((Dk.news n (ps ++ [(a, l)])).map natv).toArray 3 (0, 0)) := by
    rw [h7, heap_drew, Dk.news_snoc, List.map_set]
    exact set_list n6 a _
  have hg7 : w7.heap[g5]? = w5.heap[g5]? := by
    rw [h7, heap_drew, heap_setCell_other _ _ _ _ hgne.2.2.1, h6, heap_setCell_other _ _ _ _ hgne.1]
  refine ⟨⟨hd7.trans o6, hl7.trans h.lst, hn7, ?_, h.len, h.n1, h.n2, h.wide, ?_, ?_, h.d1, h.d2, h.d3, h.p0, h.p1, h.p2, ?_⟩, ?_⟩
  · rw [pend_snoc, ← hcs, List.length_append]
    refine own_keep hown (fun g hg' => ?_)
    simp only [Value.ownBlock, Option.some.injEq] at hg'
    rw [← hg']; exact hg7
  · intro x hx
    rcases List.mem_append.1 hx with hx | hx
    · exact h.wrs x hx
    · rw [List.mem_singleton.1 hx]; exact ⟨ha, hl⟩
  · rw [List.length_append]; simp; omega
  · intro g hg'
    simp only [Value.ownBlock, Option.some.injEq] at hg'
    rw [← hg']; exact hgne
  · refine ⟨?_, ?_, ?_, ?_, ?_⟩
    · rw [h7, h6]; exact hg.os
    · rw [h7, h6]; exact hg.tape
    · rw [h7, h6]; exact hg.output
    · rw [h7, h6]; have := hg.size; simp [World.setCell] at this ⊢; omega
    · intro k hk hn
      simp only [List.mem_append, List.mem_cons, List.not_mem_nil, or_false, not_or] at hn
      rw [h7, heap_drew, heap_setCell_other _ _ _ _ hn.1.2, h6, heap_setCell_other _ _ _ _ hn.1.1]
      exact blk5 hg hk (fun e => hn.2 (by rw [e]; simp))
set_option maxRecDepth 100000 in
set_option maxHeartbeats 1000000 in
theorem Mwrite_any (d p bl bn : Nat) (pv : Value) (n : Nat) (S : List (List UInt8)) (ps : List Dk.Wr) (life : Int) (a : Nat) (q : ByteArray) (ha : a < n) (hq : q.size = 64) (hfew : ps.length < 1000000) (w : World) (hp : p < w.heap.size) (h : LiveAt d p bl bn pv n S ps life w) :
    Calls Tryz.prog 33 #[.pointer (some ⟨d, 1, none⟩), .int .i64 a, .string q] w fun e w' => e = .returned (.tuple #[]) ∧
      (∃ pv', LiveAt d p bl bn pv' n S (ps ++ [(a, q.data.toList)]) life w' ∧ (∀ g, pv'.ownBlock = some g → pv.ownBlock = some g ∨ w.heap.size ≤ g)) ∧ (∃ ws, (∀ x ∈ ws, x = d ∨ x = bn ∨ pv.ownBlock = some x) ∧ Kept w.heap.size ws w w') := by
  obtain ⟨i0, hi, hz0, hz1, hzb⟩ := info_parts infoWrite
  have H := Lib.hid h
  have hdlt := h.lt
  have HF := Lib.hid hfew
  clear h hfew
  have hbw : ∀ (act : Act) (w : World), act.eval (.tmp 7) = .int .i64 (a : Int) → (Instr.build 106 ((#[(0, .tmp 7)] : Array (Nat × Operand)).map fun (i, x) => (i, act.eval x))).run Tryz.prog w = .ok (.agg (wr0 a).toArray) w := by
    intro act w h1
    refine run_build w _ _ _ ?_
    rw [← built_wr a]; simp [h1]
  have HW := Lib.hid hbw
  clear hbw
  obtain ⟨c0, hc0⟩ : ∃ c0, c0 = wr0 a := ⟨_, rfl⟩
  obtain ⟨z0, hz⟩ : ∃ z0, z0 = wr0 0 := ⟨_, rfl⟩
  have HA := alloc_wr
  rw [← hc0] at HW
  rw [← hz] at HA
  have HC0 := Lib.hid hc0
  have HZ0 := Lib.hid hz
  have HA' := Lib.hid HA
  clear hc0 hz HA
  go_enter Tryz.func33, Tryz.ntmps33
  go_wp2_with (first | (refine wpList_build rfl 106 _ rfl c0 (HW.out _ _ rfl) ?_; go_frame) | (refine wpList_alloc rfl 106 rfl z0 HA'.out ?_; go_frame) | (refine wpList_store_whole rfl 106 _ _ rfl w.heap.size c0 z0 106 rfl rfl (heap_alloc_new _ _) (by rw [HC0.out, HZ0.out, length_wr0, length_wr0]) (by rw [HC0.out, length_wr0]; exact size_write) (by rw [HC0.out]; exact wr0_ones a) ?_; intro w1 hg1 hk1 hs1; go_frame) | (refine wpList_copy_text rfl _ _ 57 9 rfl 5 Tryz.underlying57 (by kernel_rfl) w.heap.size 1 64 q rfl rfl hq [natv a] (List.replicate 64 (.int .u8 0)) [] 106 (by rw [hg1.out, HC0.out, wr0]; simp) rfl (by simp) ?_; intro w2 hg2 hk2 hs2; go_frame) | fail)
  have hs1' := hs1.out
  rw [World.size_alloc] at hs1'
  have hz2 : w.heap.size < w2.heap.size := by rw [hs2.out]; omega
  have B2 : Below w.heap.size w w2 := by
    have b0 : Below w.heap.size w (w.alloc (.cells z0.toArray 106)) := (Below.refl _ _).alloc (Nat.le_refl _) _
    have b1 := b0.trans ((hk1.out.mono (B := w.heap.size) (ws := [w.heap.size]) (by simp) (fun _ _ h => h)).below (by simp))
    exact b1.trans ((hk2.out.mono (B := w.heap.size) (ws := [w.heap.size]) (by omega) (fun _ _ h => h)).below (by simp))
  have H2 : LiveAt d p bl bn pv n S ps life w2 := H.out.keep (B2.block _ hdlt) (B2.block _ (lt_of_heap H.out.lst)) (B2.block _ (lt_of_heap H.out.nws)) (fun g hg => B2.block _ (H.out.pnd.lt g hg).2)
  obtain ⟨cs, hcs⟩ : ∃ cs, cs = wrCells (a, q.data.toList) := ⟨_, rfl⟩
  have hcl : cs.length = 65 := by rw [hcs, wrCells, List.length_cons, List.length_map, size_toList, hq]
  have hco : ∀ v ∈ cs, v.oneCell' = true := by rw [hcs]; exact wr_ones _
  have g2 : w2.heap[w.heap.size]? = some (.cells ([] ++ (cs ++ [])).toArray 106 (0, 0)) := by rw [hg2.out, hcs, wrCells]; simp
  have g2d : w2.drew.heap[w.heap.size]? = some (.cells ([] ++ (cs ++ [])).toArray 106 (0, 0)) := g2
  have row : RowyAt Tryz.prog 106 w2.drew (.pointer (some ⟨w.heap.size, 0, none⟩)) := rowyAt_mk g2d rfl (by rw [hcl]; exact size_write) Tryz.underlying106 rfl
  have hmid : midOf Tryz.prog 106 w2.drew (.pointer (some ⟨w.heap.size, 0, none⟩)) = cs := midOf_mk g2d rfl (by rw [hcl]; exact size_write : (Tryz.prog.info? 106).map (·.size) = some cs.length)
  have hel := elem_write hcl
  clear g2d
  have c2 := H2.c2
  have f2 := H2.free 2
  have hd2 := H2.lt
  have HH2 := Lib.hid H2
  have HB2 := Lib.hid B2
  have HG2 := Lib.hid g2
  have HCL := Lib.hid hcl
  have HCO := Lib.hid hco
  have HCS := Lib.hid hcs
  clear H2 B2 g2 hcl hco hcs hs1' hs1 hs2 hk1 hk2 hg1 hg2
  go_region_law (refine step_append_own rfl _ _ 62 rfl 0 106 i0 _ 65 72 Tryz.underlying62 hi hz0 hz1 hzb (by simp [Value.cells, wr0]) (by omega) pv ps.length (pendCells ps) rfl (by first | exact owns_drew (HH2.out.pnd.alloc _) | exact (owns_drew HH2.out.pnd).alloc _) _ 1 1 cs rfl (by omega) HCL.out (news_row (by first | exact heap_alloc_new _ _ | exact (by rw [heap_drew]; exact heap_alloc_new _ _))) HCO.out (by have := HF.out; unfold maxLen; omega) (by have := HF.out; omega) (by omega) ?_; intro g5 cap5 w5 h5 hg5 hw5; have e5 := Lib.hid (blk5 hg5.out hd2 HH2.out.own_ne.1); have c5 : w5.cell? ⟨d, 2, none⟩ = some pv := (World.cell?_of_block e5.out).trans c2; have f5 : w5.frozen? ⟨d, 2, none⟩ = false := (World.frozen?_of_block e5.out).trans f2)
  all_goals go_wp2
  all_goals
    obtain ⟨w6, hw6⟩ : ∃ w6, w6 = w5.setCell ⟨d, 2, none⟩ (.slice (some ⟨g5, 0, none⟩) (ps.length + 1) cap5) := ⟨_, rfl⟩
    obtain ⟨o6, n6⟩ := write_obj (g5 := g5) (cap5 := cap5) HH2.out hg5.out
    rw [← hw6] at o6 n6
    rw [← hw6]
    have W6 := Lib.hid hw6
    have k2 : w6.cell? ⟨d, 2, none⟩ = some (.slice (some ⟨g5, 0, none⟩) (ps.length + 1) cap5) := by rw [cell_of_list o6]; rfl
    have k3 : w6.cell? ⟨d, 3, none⟩ = some (.slice (some ⟨bn, 0, none⟩) n n) := by rw [cell_of_list o6]; rfl
    have kn := cell_nat n6 (by rw [Dk.length_news]; exact ha) rfl
    have kf := free_of_list n6 a
    clear hw6 c2 f2 c5 f5 o6 n6 row hmid hel
    have hN2 := HH2.out.n2
    go_region
    go_wp2
    go_end0
    obtain ⟨hl, hk⟩ := write_live HH2.out h5.out HCS.out hg5.out hw5.out ha (by rw [size_toList, hq]) HF.out (by omega) W6.out rfl
    refine ⟨rfl, ⟨_, hl, ?_⟩, ⟨[d, bn] ++ pv.ownBlock.toList, ?_, ?_⟩⟩
    · intro g hg'
      simp only [Value.ownBlock, Option.some.injEq] at hg'
      subst hg'
      rcases hw5.out with h | h
      · exact Or.inl h
      · right; simp at h; omega
    · intro x hx
      simp only [List.mem_append, List.mem_cons, List.not_mem_nil, or_false, Option.mem_toList] at hx
      rcases hx with (hx | hx) | hx
      · exact Or.inl hx
      · exact Or.inr (Or.inl hx)
      · exact Or.inr (Or.inr hx)
    · exact (Kept.of_below HB2.out).trans (hk.mono (by omega) (fun _ _ h => h))
set_option maxHeartbeats 1000000 in
theorem Write_ok (d p : Nat) (F : List Nat) (n : Nat) (S : List (List UInt8)) (ps : List Dk.Wr) (life fuse acts : Int) (a : Nat) (q : ByteArray) (ha : a < n) (hq : q.size = 64) (hfew : ps.length < 1000000)
    (hf : fuse ≠ 0) (hf1 : -1 ≤ fuse) (hf2 : fuse ≤ 9223372036854775807) (ha0 : 0 ≤ acts) (ha1 : acts ≤ 1000000000000) (w : World) (h : Live d p F n S ps life w) (hp : PowerAt p false fuse acts w) :
    Calls Tryz.prog 8 #[.pointer (some ⟨d, 0, none⟩), .int .i64 a, .string q] w fun e w' => e = .returned .nilIface ∧
      ∃ F', Live d p F' n S (ps ++ [(a, q.data.toList)]) life w' ∧ PowerAt p false (less fuse) (acts + 1) w' ∧ (∀ x ∈ F', x ∈ F ∨ w.heap.size ≤ x) ∧ Kept w.heap.size (p :: F) w w' := by
  obtain ⟨bl, bn, pv, h, k1, k2, k3, k4, k5, k6⟩ := h
  have c0 := h.c0
  have c1 := h.c1
  have hpl := hp.lt
  have H := Lib.hid h
  have HP := Lib.hid hp
  have HF := Lib.hid hfew
  have HZ := Lib.hid hf
  have K5 := Lib.hid k5
  have K := Lib.hid (And.intro k1 (And.intro k2 (And.intro k3 (And.intro k4 k6))))
  have hqb : ((q.size : Int) != 64) = false := by rw [bne_eq_false_iff_eq]; omega
  clear h hp hfew hf k1 k2 k3 k4 k5 k6
  go_enter Tryz.func8, Tryz.ntmps8
  go_wp2_with (first | (go_at_call 29; refine (ready_ok d p bl bn pv n S ps life fuse acts _ H.out HP.out).mono ?_; rintro e w' ⟨rfl, rfl⟩) | (go_at_call 30; refine (has_yes d bl n a ha _ c1).mono ?_; rintro e w' ⟨rfl, rfl⟩) | fail)
  refine (act_ok p fuse acts HZ.out hf1 hf2 ha0 ha1 _ HP.out).mono ?_
  rintro e w1 ⟨rfl, hp1, hk1⟩
  have hz1 := hk1.size
  obtain ⟨q1, q2, q3, q4, q6⟩ := K.out
  have np : ∀ x ∈ F, x ≠ p := fun x hx e => K5.out (e ▸ hx)
  have h1 : LiveAt d p bl bn pv n S ps life w1 := H.out.keep (hk1.block d (q6 d q1) (by simp; exact np d q1)) (hk1.block bl (q6 bl q2) (by simp; exact np bl q2)) (hk1.block bn (q6 bn q3) (by simp; exact np bn q3))
    (fun g hg => hk1.block g (q6 g (q4 g hg)) (by simp; exact np g (q4 g hg)))
  have H1 := Lib.hid h1
  have HP1 := Lib.hid hp1
  have HK1 := Lib.hid hk1
  have Q4 := Lib.hid q4
  have Q6 := Lib.hid q6
  have NP := Lib.hid np
  clear h1 hp1 hk1 q4 q6 np c0 c1
  go_wp2_with fail
  refine (Mwrite_any d p bl bn pv n S ps life a q ha hq HF.out _ (by omega) H1.out).mono ?_
  rintro e w2 ⟨rfl, ⟨pv', h2, ho⟩, ⟨ws, hws, hk2⟩⟩
  have H2 := Lib.hid h2
  have HO := Lib.hid ho
  have HW := Lib.hid hws
  have HK2 := Lib.hid hk2
  clear h2 ho hws hk2
  go_wp2_with fail
  go_ret
  have hz2 := HK2.out.size
  have hin : ∀ x ∈ ws, x ∈ F := fun x hx => by
    rcases HW.out x hx with rfl | rfl | h
    · exact q1
    · exact q3
    · exact Q4.out x h
  refine ⟨rfl, F ++ pv'.ownBlock.toList, ⟨bl, bn, pv', H2.out, by simp [q1], by simp [q2], by simp [q3], fun g hg => by simp [hg], ?_, ?_⟩, ?_, ?_, ?_⟩
  · intro hm
    rcases List.mem_append.1 hm with hm | hm
    · exact K5.out hm
    · exact (H2.out.own p (Option.mem_toList.1 hm)).2.2.2 rfl
  · intro x hx
    rcases List.mem_append.1 hx with hx | hx
    · have := Q6.out x hx; omega
    · exact (H2.out.pnd.lt x (Option.mem_toList.1 hx)).2
  · exact HP1.out.keep (HK2.out.block p (by omega) (fun hm => K5.out (hin p hm)))
  · intro x hx
    rcases List.mem_append.1 hx with hx | hx
    · exact Or.inl hx
    · rcases HO.out x (Option.mem_toList.1 hx) with h | h
      · exact Or.inl (Q4.out x h)
      · right; omega
  · exact (HK1.out.mono (Nat.le_refl _) (fun k _ hk => by simp at hk; simp [hk])).trans (HK2.out.mono hz1 (fun k _ hk => by simp [hin k hk]))
end Go.Proofs.YtmobjpandmdmdaaGreatDoor
