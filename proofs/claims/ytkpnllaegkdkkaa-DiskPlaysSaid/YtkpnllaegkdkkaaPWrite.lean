/- The document's disk: writing. -/
import Derived.Test.YtkpnllaegkdkkaaPRead
namespace Go.Proofs.Ytkpnllaegkdkkaa
open Go.RowKit

theorem sv_toList (q : ByteArray) : sv q.data.toList = .string q := rfl
theorem rwrite_no (r : Nat) (a c : Int) (s : ByteArray) (hc : c ≠ 0) (w : World) (hb : Calls Try.prog 49 #[.pointer (some ⟨r, 0, none⟩), .int .i64 a] w fun e w' => e = .returned (.int .i64 c) ∧ w = w') :
    Calls Try.prog 23 #[.pointer (some ⟨r, 0, none⟩), .int .i64 a, .string s] w fun e w' => e = .returned (.int .i64 c) ∧ w = w' := by
  have HB := Lib.hid hb
  have hne : (c != 0) = true := by rw [bne_iff_ne]; exact hc
  have hne2 : (c == 0) = false := by rw [beq_eq_false_iff_ne]; exact hc
  clear hb hc
  go_enter Try.func23, Try.ntmps23
  go_wp2_with (go_at_call 49; refine HB.out.mono ?_; rintro e w' ⟨rfl, rfl⟩)
  go_ret
  exact ⟨rfl, rfl⟩
theorem rwrite_len (r : Nat) (a : Int) (s : ByteArray) (hs : s.size ≠ 64) (w : World) (hb : Calls Try.prog 49 #[.pointer (some ⟨r, 0, none⟩), .int .i64 a] w fun e w' => e = .returned (.int .i64 0) ∧ w = w') :
    Calls Try.prog 23 #[.pointer (some ⟨r, 0, none⟩), .int .i64 a, .string s] w fun e w' => e = .returned (.int .i64 1) ∧ w = w' := by
  have HB := Lib.hid hb
  have hne : ((s.size : Int) != 64) = true := by rw [bne_iff_ne]; omega
  clear hb hs
  go_enter Try.func23, Try.ntmps23
  go_wp2_with (go_at_call 49; refine HB.out.mono ?_; rintro e w' ⟨rfl, rfl⟩)
  go_ret
  exact ⟨rfl, rfl⟩
section
variable {r q : Nat} {hv wv : Value} {n : Nat} {S : List (List UInt8)} {ps : List Dk.Wr} {life left acts : Int} {w : World}
theorem rwrite_cut (h : RAt r q hv wv n S ps false life w) (hp : RPow q false 0 acts w) (a : Nat) (ha : a < n) (s : ByteArray) (hs : s.size = 64) :
    Calls Try.prog 23 #[.pointer (some ⟨r, 0, none⟩), .int .i64 a, .string s] w fun e w' => e = .returned (.int .i64 10) ∧ RPow q true 0 acts w' ∧ Kept w.heap.size [q] w w' := by
  have HB := Lib.hid (bad_ok h hp a ha)
  have c0 := h.c0
  have hne : ((s.size : Int) != 64) = false := by rw [bne_eq_false_iff_eq]; omega
  have HP := Lib.hid hp
  clear h hp hs
  go_enter Try.func23, Try.ntmps23
  go_wp2_with (first | (go_at_call 49; refine HB.out.mono ?_; rintro e w' ⟨rfl, rfl⟩) | (go_at_call 51; refine (ract_cut q acts _ HP.out).mono ?_; rintro e w1 ⟨rfl, hp1, hk1⟩; have HP1 := Lib.hid hp1; have HK1 := Lib.hid hk1; clear hp1 hk1))
  go_ret
  exact ⟨rfl, HP1.out, HK1.out⟩
end
/-- One that waits, as it is built. -/
theorem built_late (a : Nat) (s : ByteArray) : Try.prog.built 91 [(0, .int .i64 (a : Int)), (1, .string s)] = some [natv a, .string s].toArray := by kernel_rfl
theorem infoLate : (Try.prog.info? 91).map (fun i => (i.zero, i.size, i.bytes)) = some (some (.agg #[.int .i64 0, .string ⟨#[]⟩]), 2, 24) := by kernel_rfl
theorem elem_late (a : Nat) (s : ByteArray) : ElemRow Try.prog 71 (.agg [natv a, .string s].toArray) := by
  obtain ⟨i0, hi, hz0, hz1, hz2⟩ := info_parts infoLate
  exact ⟨91, i0, _, Try.underlying71, hi, hz0, by rw [hz1]; rfl, by omega, by omega, by rw [hz1]; rfl⟩
/-- Appending to what is owned: where it lies then. -/
theorem wpList_append_where {P : Program} {ops : Array Oper} {rest : List Oper} {o : Oper} {a : Act} {w : World} {Q : Exit → Act → World → Prop} (hgd : o.guard = none) (s x : Operand) (t : TypeId)
    (ho : o.op = .call { callee := .builtin .append, args := #[s, x], argTypes := #[t, t] })
    (base : Nat) (e : TypeId) (i : TypeInfo) (z : Value) (size bytes : Nat) (ht : P.underlying t = some (.slice e)) (hi : P.info? e = some i) (hz : i.zero = some z)
    (hsize : i.size = size) (hby : i.bytes = bytes) (hzs : z.cells.size = size) (hsz : 0 < size)
    (v : Value) (n : Nat) (xs : List Value) (hs : a.eval s = v) (hown : w.ownsRow base e size v n xs)
    (ad : Addr) (m c : Nat) (news : List Value) (hx : a.eval x = .slice (some ad) m c) (hm : 0 < m) (hl : news.length = m * size) (hnews : ∀ j u, news[j]? = some u → w.cell? (ad.add j) = some u) (h1 : ∀ u ∈ news, u.oneCell' = true)
    (h63 : n + m ≤ maxLen) (hbytes : (n + m) * bytes ≤ 140737488355328) (hbase : base ≤ w.heap.size)
    (h : ∀ g cap w', Hid (w'.ownsRow base e size (.slice (some ⟨g, 0, none⟩) (n + m) cap) (n + m) (xs ++ news)) → Hid (w.grownBy w' v.ownBlock) → Hid (v.ownBlock = some g ∨ w.heap.size ≤ g) → wpList P ops Q rest (a.put o.dst (.slice (some ⟨g, 0, none⟩) (n + m) cap)) w') : wpList P ops Q (o :: rest) a w :=
  wpList_plain hgd fun _ hK => by
    obtain ⟨g, cap, w', hrun, h2, h3, h4⟩ := run_append_where w base t o.type e i z size bytes ht hi hz hsize hby hzs hsz v n xs hown ad m c news hm hl hnews h1 h63 hbytes hbase
    unfold Oper.wp
    simp [execOp, ho, resolve, invoke, builtin, hs, hx, hrun, Result.andThen]
    exact hK _ _ (h g cap w' (Lib.hid h2) (Lib.hid h3) (Lib.hid h4))
theorem blkn {w2 w5 : World} {o : Obj} {row : Option Nat} (h : (w2.alloc o).grownBy w5 row) {x : Nat} (hx : x < w2.heap.size) (hr : row ≠ some x) : w5.heap[x]? = w2.heap[x]? :=
  (h.block x (by simp; omega) (fun e => hr e.symm)).trans (heap_alloc_old w2 o hx)
theorem late_grown {r q : Nat} {hv wv : Value} {n : Nat} {S : List (List UInt8)} {ps : List Dk.Wr} {life : Int} {w1 w5 w6 : World} {o : Obj} {cs : List Value} {a g5 cap5 : Nat} {q' : ByteArray} (h : RAt r q hv wv n S ps false life w1)
    (hown : w5.ownsRow 0 91 2 (.slice (some ⟨g5, 0, none⟩) (ps.length + 1) cap5) (ps.length + 1) (lateCells ps ++ cs)) (hcs : cs = [natv a, .string q']) (hg : (w1.alloc o).grownBy w5 wv.ownBlock) (hw : wv.ownBlock = some g5 ∨ (w1.alloc o).heap.size ≤ g5)
    (ha : a < n) (hl : q'.data.toList.length = 64) (hf : ps.length < 1000000) (hq : q < w1.heap.size) (h6 : w6 = w5.setCell ⟨r, 3, none⟩ (.slice (some ⟨g5, 0, none⟩) (ps.length + 1) cap5)) :
    RAt r q hv (.slice (some ⟨g5, 0, none⟩) (ps.length + 1) cap5) n S (ps ++ [(a, q'.data.toList)]) false life w6 ∧ Kept w1.heap.size (r :: wv.ownBlock.toList) w1 w6 := by
  have hr := h.lt
  have hwr : wv.ownBlock ≠ some r := fun e => (h.ow r e).1 rfl
  have hg5 : g5 ≠ r ∧ g5 ≠ q ∧ hv.ownBlock ≠ some g5 := by
    rcases hw with hw | hw
    · exact h.ow _ hw
    · simp at hw
      refine ⟨by omega, by omega, fun e => ?_⟩
      have := (h.has.lt g5 e).2
      omega
  refine ⟨⟨?_, ?_, ?_, h.n1, h.n2, h.wide, ?_, ?_, h.q0, h.oh, ?_⟩, ?_⟩
  · rw [h6]; exact set_list ((blkn hg hr hwr).trans h.obj) 3 _
  · refine own_keep h.has (fun g hg' => ?_)
    rw [h6, heap_setCell_other _ _ _ _ (h.oh g hg').1]
    exact blkn hg (h.has.lt g hg').2 (fun e => (h.ow g e).2.2 hg')
  · rw [late_snoc, sv_toList, ← hcs, List.length_append]
    refine own_keep hown (fun g hg' => ?_)
    simp only [Value.ownBlock, Option.some.injEq] at hg'
    rw [h6, heap_setCell_other _ _ _ _ (by rw [← hg']; exact hg5.1)]
  · intro x hx
    rcases List.mem_append.1 hx with hx | hx
    · exact h.wrs x hx
    · rw [List.mem_singleton.1 hx]; exact ⟨ha, hl⟩
  · rw [List.length_append]; simp; omega
  · intro g hg'
    simp only [Value.ownBlock, Option.some.injEq] at hg'
    rw [← hg']; exact hg5
  · refine ⟨?_, ?_, ?_, ?_, ?_⟩
    · rw [h6]; exact hg.os
    · rw [h6]; exact hg.tape
    · rw [h6]; exact hg.output
    · rw [h6]; have := hg.size; simp [World.setCell] at this ⊢; omega
    · intro k hk hn
      simp only [List.mem_cons, Option.mem_toList, not_or] at hn
      rw [h6, heap_setCell_other _ _ _ _ hn.1]
      exact blkn hg hk hn.2
attribute [local go_sem ↓] run_buildSlice_one
section
variable {r q : Nat} {n : Nat} {S : List (List UInt8)} {ps : List Dk.Wr} {life left acts : Int} {w : World}
set_option maxRecDepth 100000 in
set_option maxHeartbeats 1000000 in
theorem rwrite_ok {G : List Nat} (h : RDisk r q G n S ps false life w) (hp : RPow q false left acts w) (a : Nat) (ha : a < n) (s : ByteArray) (hs : s.size = 64) (hfew : ps.length < 1000000)
    (hf : left ≠ 0) (hf1 : -1 ≤ left) (hf2 : left ≤ 9223372036854775807) (ha0 : 0 ≤ acts) (ha1 : acts ≤ 1000000000000) :
    Calls Try.prog 23 #[.pointer (some ⟨r, 0, none⟩), .int .i64 a, .string s] w fun e w' => e = .returned (.int .i64 0) ∧
      ∃ G', RDisk r q G' n S (ps ++ [(a, s.data.toList)]) false life w' ∧ RPow q false (less left) (acts + 1) w' ∧ (∀ x ∈ G', x ∈ G ∨ w.heap.size ≤ x) ∧ Kept w.heap.size (q :: G) w w' := by
  obtain ⟨hv, wv, h, g1, g2, g3, g4, g5⟩ := h
  have HB := Lib.hid (bad_ok h hp a ha)
  have c0 := h.c0
  have hne : ((s.size : Int) != 64) = false := by rw [bne_eq_false_iff_eq]; omega
  have HP := Lib.hid hp
  have H := Lib.hid h
  have HF := Lib.hid hf
  have hpl := hp.lt
  have hrl := h.lt
  have HG := Lib.hid (And.intro g1 (And.intro g2 (And.intro g3 (And.intro g4 g5))))
  clear h hp hf g1 g2 g3 g4 g5
  go_enter Try.func23, Try.ntmps23
  go_wp2_with (first | (go_at_call 49; refine HB.out.mono ?_; rintro e w' ⟨rfl, rfl⟩) | fail)
  refine (ract_ok q left acts HF.out hf1 hf2 ha0 ha1 _ HP.out).mono ?_
  rintro e w1 ⟨rfl, hp1, hk1⟩
  obtain ⟨q1, q2, q3, q4, q5⟩ := HG.out
  have nq : ∀ x ∈ G, x ∉ [q] := fun x hx hm => q4 (by simp at hm; exact hm ▸ hx)
  have h1 : RAt r q hv wv n S ps false life w1 := H.out.keep (hk1.block r hrl (nq r q1)) (fun g hg => hk1.block g (q5 g (q2 g hg)) (nq g (q2 g hg))) (fun g hg => hk1.block g (q5 g (q3 g hg)) (nq g (q3 g hg)))
  have hz1 := hk1.size
  have c3 := h1.c3
  have f3 := h1.free 3
  have hb1 := built_late a s
  obtain ⟨cs, hcs⟩ : ∃ cs, cs = [natv a, Value.string s] := ⟨_, rfl⟩
  have hel := elem_late a s
  rw [← hcs] at hb1 hel
  have hbw : ∀ (act : Act) (w : World), act.eval (.tmp 34) = .int .i64 (a : Int) → act.eval (.tmp 35) = .string s → (Instr.build 91 ((#[(0, .tmp 34), (1, .tmp 35)] : Array (Nat × Operand)).map fun (i, x) => (i, act.eval x))).run Try.prog w = .ok (.agg cs.toArray) w := by
    intro act w h1 h2
    refine run_build w _ _ _ ?_
    rw [← hb1]; simp [h1, h2]
  have HBW := Lib.hid hbw
  have HCS := Lib.hid hcs
  have H1 := Lib.hid h1
  have HP1 := Lib.hid hp1
  have HK1 := Lib.hid hk1
  obtain ⟨i0, hi, hz0, hz1', hz2⟩ := info_parts infoLate
  clear h1 hp1 hk1 hb1 hbw hcs c0 q1 q2 q3 q4 q5 nq
  have hcl : cs.length = 1 * 2 := by rw [HCS.out]; rfl
  have hco : ∀ u ∈ cs, u.oneCell' = true := by rw [HCS.out]; intro u hu; simp only [List.mem_cons, List.not_mem_nil, or_false] at hu; rcases hu with rfl | rfl <;> rfl
  have HCL := Lib.hid hcl
  have HCO := Lib.hid hco
  have hrl1 : r < w1.heap.size := by omega
  have hwr : wv.ownBlock ≠ some r := fun e => (H1.out.ow r e).1 rfl
  have HWR := Lib.hid hwr
  clear hcl hco hwr
  go_wp2_with (first | (refine wpList_build rfl 91 _ rfl cs (HBW.out _ _ rfl rfl) ?_; go_frame) | (refine wpList_append_where rfl (.tmp 33) (.tmp 37) 71 rfl 0 91 i0 _ 2 24 Try.underlying71 hi hz0 hz1' hz2 rfl (by omega) wv ps.length (lateCells ps) rfl (H1.out.wait.alloc _) ⟨w1.heap.size, 0, none⟩ 1 1 cs rfl (by omega) HCL.out (news_row (heap_alloc_new _ _)) HCO.out (by unfold maxLen; omega) (by omega) (by omega) ?_; intro g5 cap5 w5 h5 hg5 hw5; have e5 := Lib.hid (blkn hg5.out hrl1 HWR.out); have c5 : w5.cell? ⟨r, 3, none⟩ = some wv := (World.cell?_of_block e5.out).trans c3; have f5 : w5.frozen? ⟨r, 3, none⟩ = false := (World.frozen?_of_block e5.out).trans f3; go_frame))
  go_ret
  refine ⟨rfl, ?_⟩
  obtain ⟨q1, q2, q3, q4, q5⟩ := HG.out
  have hq1 : q < w1.heap.size := by omega
  obtain ⟨hl, hk⟩ := late_grown H1.out h5.out HCS.out hg5.out hw5.out ha (by rw [size_toList, hs]) hfew hq1 rfl
  have hz5 := hk.size
  refine ⟨g5 :: G, ⟨hv, _, hl, by simp [q1], fun g hg => by simp [q2 g hg], fun g hg => ?_, ?_, ?_⟩, ?_, ?_, ?_⟩
  · simp only [Value.ownBlock, Option.some.injEq] at hg; simp [hg]
  · intro hm
    rcases List.mem_cons.1 hm with hm | hm
    · exact (hl.ow g5 rfl).2.1 hm.symm
    · exact q4 hm
  · intro x hx
    rcases List.mem_cons.1 hx with rfl | hx
    · exact (hl.wait.lt _ rfl).2
    · have := q5 x hx; omega
  · exact (hk.block q hq1 (by
      intro hm
      simp only [List.mem_cons, Option.mem_toList] at hm
      rcases hm with hm | hm
      · exact H1.out.q0 hm
      · exact (H1.out.ow q hm).2.1 rfl)).trans HP1.out
  · intro x hx
    rcases List.mem_cons.1 hx with rfl | hx
    · rcases hw5.out with h | h
      · exact Or.inl (q3 _ h)
      · right; simp at h; omega
    · exact Or.inl hx
  · exact (HK1.out.mono (Nat.le_refl _) (fun k _ hk => by simp at hk; simp [hk])).trans (hk.mono hz1 (fun k _ hm => by
      simp only [List.mem_cons, Option.mem_toList] at hm
      rcases hm with rfl | hm
      · simp [q1]
      · simp [q3 k hm]))
end
end Go.Proofs.Ytkpnllaegkdkkaa
