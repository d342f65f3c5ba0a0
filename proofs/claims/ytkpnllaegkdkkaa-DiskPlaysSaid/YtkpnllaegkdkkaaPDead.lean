/- The program's dead disk; what a disk refuses, dead or not; killing and replacing. -/
import Derived.Test.YtkpnllaegkdkkaaDDuo
import Derived.Test.YtkpnllaegkdkkaaDImage
namespace Go.Proofs.Ytkpnllaegkdkkaa
open Go.RowKit

/-- A dead disk at block d. -/
structure DeadAt (d p n : Nat) (life : Int) (w : World) : Prop where
  obj : w.heap[d]? = some (.cells [Value.pointer (some ⟨p, 0, none⟩), .slice none 0 0, .slice none 0 0, .slice none 0 0, natv n, .int .i64 life].toArray 68 (0, 0))
  n1 : 1 ≤ n
  n2 : n ≤ 8192
def Gone (d p : Nat) (F : List Nat) (n : Nat) (life : Int) (w : World) : Prop := DeadAt d p n life w ∧ d ∈ F ∧ p ∉ F ∧ ∀ x ∈ F, x < w.heap.size
section
variable {d p n : Nat} {F : List Nat} {life : Int} {w w' : World}
theorem DeadAt.c0 (h : DeadAt d p n life w) : w.cell? ⟨d, 0, none⟩ = some (.pointer (some ⟨p, 0, none⟩)) := by rw [cell_of_list h.obj]; rfl
theorem DeadAt.c1 (h : DeadAt d p n life w) : w.cell? ⟨d, 1, none⟩ = some (.slice none 0 0) := by rw [cell_of_list h.obj]; rfl
theorem DeadAt.c2 (h : DeadAt d p n life w) : w.cell? ⟨d, 2, none⟩ = some (.slice none 0 0) := by rw [cell_of_list h.obj]; rfl
theorem DeadAt.c3 (h : DeadAt d p n life w) : w.cell? ⟨d, 3, none⟩ = some (.slice none 0 0) := by rw [cell_of_list h.obj]; rfl
theorem DeadAt.c4 (h : DeadAt d p n life w) : w.cell? ⟨d, 4, none⟩ = some (.int .i64 n) := by rw [cell_of_list h.obj]; rfl
theorem DeadAt.c5 (h : DeadAt d p n life w) : w.cell? ⟨d, 5, none⟩ = some (.int .i64 life) := by rw [cell_of_list h.obj]; rfl
theorem DeadAt.free (h : DeadAt d p n life w) (j : Nat) : w.frozen? ⟨d, j, none⟩ = false := free_of_list h.obj j
theorem DeadAt.lt (h : DeadAt d p n life w) : d < w.heap.size := lt_of_heap h.obj
theorem Gone.keep (h : Gone d p F n life w) (hz : w.heap.size ≤ w'.heap.size) (hk : ∀ x ∈ F, w'.heap[x]? = w.heap[x]?) : Gone d p F n life w' :=
  ⟨⟨(hk d h.2.1).trans h.1.obj, h.1.n1, h.1.n2⟩, h.2.1, h.2.2.1, fun x hx => Nat.lt_of_lt_of_le (h.2.2.2 x hx) hz⟩
theorem Dead_yes (h : w.cell? ⟨d, 1, none⟩ = some (.slice none 0 0)) : Calls Try.prog 37 #[.pointer (some ⟨d, 0, none⟩)] w fun e w' => e = .returned (.bool true) ∧ w = w' := by
  go_enter Try.func37, Try.ntmps37
  go_wp2
  go_ret
  exact ⟨rfl, rfl⟩
theorem ready_gone0 {fuse acts : Int} (c0 : w.cell? ⟨d, 0, none⟩ = some (.pointer (some ⟨p, 0, none⟩))) (hp : PowerAt p true fuse acts w) : Calls Try.prog 41 #[.pointer (some ⟨d, 0, none⟩)] w (Refused 10 id w) := by
  have q0 := hp.c0
  clear hp
  go_enter Try.func41, Try.ntmps41
  go_wp2_with (go_at_call 18; refine (fault_is 10 _).mono ?_; rintro e w' ⟨g, hg, rfl, hf, hb⟩; have HF := Lib.hid hf; have HB := Lib.hid hb; clear hf hb)
  go_ret
  exact ⟨g, hg, rfl, HF.out, HB.out⟩
theorem ready_dead {fuse acts : Int} (h : DeadAt d p n life w) (hp : PowerAt p false fuse acts w) : Calls Try.prog 41 #[.pointer (some ⟨d, 0, none⟩)] w (Refused 11 id w) := by
  have c0 := h.c0
  have c1 := h.c1
  have q0 := hp.c0
  clear h hp
  go_enter Try.func41, Try.ntmps41
  go_wp2_with (first | (go_at_call 37; refine (Dead_yes c1).mono ?_; rintro e w' ⟨rfl, rfl⟩) | (go_at_call 18; refine (fault_is 11 _).mono ?_; rintro e w' ⟨g, hg, rfl, hf, hb⟩; have HF := Lib.hid hf; have HB := Lib.hid hb; clear hf hb))
  go_ret
  exact ⟨g, hg, rfl, HF.out, HB.out⟩
theorem Read_unready (c : Int) (hr : Calls Try.prog 41 #[.pointer (some ⟨d, 0, none⟩)] w (Refused c id w)) (a : Int) : Calls Try.prog 14 #[.pointer (some ⟨d, 0, none⟩), .int .i64 a] w (Refused c (fun v => .tuple #[.string ⟨#[]⟩, v]) w) := by
  have HR := Lib.hid hr
  clear hr
  go_enter Try.func14, Try.ntmps14
  go_wp2_with fail
  refine HR.out.mono ?_
  rintro e w1 ⟨g, hg, rfl, hf⟩
  have HF := Lib.hid hf
  clear hf
  go_wp2_with fail
  go_ret2
  exact ⟨g, hg, rfl, HF.out⟩
theorem Write_unready (c : Int) (hr : Calls Try.prog 41 #[.pointer (some ⟨d, 0, none⟩)] w (Refused c id w)) (a : Int) (q : ByteArray) : Calls Try.prog 12 #[.pointer (some ⟨d, 0, none⟩), .int .i64 a, .string q] w (Refused c id w) := by
  have HR := Lib.hid hr
  clear hr
  go_enter Try.func12, Try.ntmps12
  go_wp2_with fail
  refine HR.out.mono ?_
  rintro e w1 ⟨g, hg, rfl, hf⟩
  have HF := Lib.hid hf
  clear hf
  go_wp2_with fail
  go_ret
  exact ⟨g, hg, rfl, HF.out⟩
theorem Flush_unready (c : Int) (hr : Calls Try.prog 41 #[.pointer (some ⟨d, 0, none⟩)] w (Refused c id w)) : Calls Try.prog 25 #[.pointer (some ⟨d, 0, none⟩)] w (Refused c id w) := by
  have HR := Lib.hid hr
  clear hr
  go_enter Try.func25, Try.ntmps25
  go_wp2_with fail
  refine HR.out.mono ?_
  rintro e w1 ⟨g, hg, rfl, hf⟩
  have HF := Lib.hid hf
  clear hf
  go_wp2_with fail
  go_ret
  exact ⟨g, hg, rfl, HF.out⟩
/-! What only looks. -/
theorem Sectors_dead (h : DeadAt d p n life w) : Calls Try.prog 39 #[.pointer (some ⟨d, 0, none⟩)] w fun e w' => e = .returned (.int .i64 n) ∧ w = w' := by
  have c4 := h.c4
  clear h
  go_enter Try.func39, Try.ntmps39
  go_wp2
  go_ret
  exact ⟨rfl, rfl⟩
theorem Life_dead (h : DeadAt d p n life w) : Calls Try.prog 38 #[.pointer (some ⟨d, 0, none⟩)] w fun e w' => e = .returned (.int .i64 life) ∧ w = w' := by
  have c5 := h.c5
  clear h
  go_enter Try.func38, Try.ntmps38
  go_wp2
  go_ret
  exact ⟨rfl, rfl⟩
theorem Pending_dead (h : DeadAt d p n life w) : Calls Try.prog 15 #[.pointer (some ⟨d, 0, none⟩)] w fun e w' => e = .returned (.int .i64 0) ∧ w = w' := by
  have c2 := h.c2
  clear h
  go_enter Try.func15, Try.ntmps15
  go_wp2
  go_ret
  exact ⟨rfl, rfl⟩
theorem Rot_dead (h : DeadAt d p n life w) (a b : Int) : Calls Try.prog 32 #[.pointer (some ⟨d, 0, none⟩), .int .i64 a, .int .i64 b] w (Refused 11 id w) := by
  have c1 := h.c1
  clear h
  go_enter Try.func32, Try.ntmps32
  go_wp2_with (first | (go_at_call 37; refine (Dead_yes c1).mono ?_; rintro e w' ⟨rfl, rfl⟩) | (go_at_call 18; refine (fault_is 11 _).mono ?_; rintro e w' ⟨g, hg, rfl, hf, hb⟩; have HF := Lib.hid hf; have HB := Lib.hid hb; clear hf hb))
  go_ret
  exact ⟨g, hg, rfl, HF.out, HB.out⟩
end
theorem Cut_any (p : Nat) (gone : Bool) (fuse acts : Int) (w : World) (h : PowerAt p gone fuse acts w) :
    Calls Try.prog 34 #[.pointer (some ⟨p, 0, none⟩)] w fun e w' => e = .returned (.tuple #[]) ∧ PowerAt p true fuse acts w' ∧ Kept w.heap.size [p] w w' := by
  have c0 := h.c0
  have f0 := free_of_list h
  have H := Lib.hid h
  clear h
  go_enter Try.func34, Try.ntmps34
  go_wp2
  go_end0
  exact ⟨rfl, set_list H.out 0 _, (Kept.refl _ _ _).setCell (p := ⟨p, 0, none⟩) (by simp) _⟩
theorem Fuse_all (p : Nat) (gone : Bool) (fuse acts n : Int) (w : World) (h : PowerAt p gone fuse acts w) :
    Calls Try.prog 33 #[.pointer (some ⟨p, 0, none⟩), .int .i64 n] w fun e w' => e = .returned (.tuple #[]) ∧ PowerAt p gone (max n (-1)) acts w' ∧ Kept w.heap.size [p] w w' := by
  have c1 := h.c1
  have f0 := free_of_list h
  have H := Lib.hid h
  clear h
  go_enter Try.func33, Try.ntmps33
  go_wp2
  go_end0
  exact ⟨rfl, set_list H.out 1 _, (Kept.refl _ _ _).setCell (p := ⟨p, 1, none⟩) (by simp) _⟩
/-- A row stored into the middle of a block that is known. -/
theorem wpList_store_part {P : Program} {ops : Array Oper} {rest : List Oper} {op : Oper} {a : Act} {w : World} {Q : Exit → Act → World → Prop} (hgd : op.guard = none) (ty : TypeId) (x y : Operand) (ho : op.op = .store ty x y)
    (b o : Nat) (cells A B C : List Value) (t : TypeId) (hx : a.eval x = .pointer (some ⟨b, o, none⟩)) (hy : a.eval y = .agg cells.toArray)
    (hg : w.heap[b]? = some (.cells (A ++ (B ++ C)).toArray t (0, 0))) (hA : A.length = o) (hB : B.length = cells.length) (hi : (P.info? ty).map (·.size) = some cells.length) (h1 : ∀ v ∈ cells, v.oneCell' = true)
    (h : ∀ w', Hid (w'.heap[b]? = some (.cells (A ++ (cells ++ C)).toArray t (0, 0))) → Hid (Kept w.heap.size [b] w w') → Hid (w'.heap.size = w.heap.size) → wpList P ops Q rest (a.put op.dst undef) w') : wpList P ops Q (op :: rest) a w := by
  refine wpList_store_mid hgd ty x y ho b o cells.toArray hx hy (there_of_list hg (by simp; omega)) (by simpa using hi) (all_oneCell_toArray h1) ?_
  subst hA
  refine h _ (Lib.hid ?_) (Lib.hid (kept_setCells _ _ _ _)) (Lib.hid (setCells_size _ _ _))
  have := setCells_list cells A.length _ w hg
  rw [laid_mid' _ _ _ _ hB] at this
  exact this
/-- A disk's cells, whatever its medium is. -/
def diskCells (p n : Nat) (x1 x2 x3 : Value) (life : Int) : List Value := [Value.pointer (some ⟨p, 0, none⟩), x1, x2, x3, natv n, .int .i64 life]
theorem built_med : Try.prog.built 65 [] = some [Value.slice none 0 0, .slice none 0 0, .slice none 0 0].toArray := by kernel_rfl
theorem size_med : (Try.prog.info? 65).map (·.size) = some 3 := by kernel_rfl
set_option maxRecDepth 100000 in
theorem Kill_obj (d p n : Nat) (x1 x2 x3 : Value) (life : Int) (hl0 : 0 ≤ life) (hl : life ≤ 1000000000000) (w : World) (h : w.heap[d]? = some (.cells (diskCells p n x1 x2 x3 life).toArray 68 (0, 0))) :
    Calls Try.prog 28 #[.pointer (some ⟨d, 0, none⟩)] w fun e w' => e = .returned (.tuple #[]) ∧ w'.heap[d]? = some (.cells (diskCells p n (.slice none 0 0) (.slice none 0 0) (.slice none 0 0) (life + 1)).toArray 68 (0, 0)) ∧ Kept w.heap.size [d] w w' := by
  obtain ⟨cs, hcs⟩ : ∃ cs, cs = [Value.slice none 0 0, .slice none 0 0, .slice none 0 0] := ⟨_, rfl⟩
  have hb := built_med
  rw [← hcs] at hb
  have hbw : ∀ (act : Act) (w : World), (Instr.build 65 ((#[] : Array (Nat × Operand)).map fun (i, x) => (i, act.eval x))).run Try.prog w = .ok (.agg cs.toArray) w := by
    intro act w
    refine run_build w _ _ _ ?_
    rw [← hb]; simp
  have hco : ∀ v ∈ cs, v.oneCell' = true := by rw [hcs]; intro u hu; simp only [List.mem_cons, List.not_mem_nil, or_false] at hu; rcases hu with rfl | rfl | rfl <;> rfl
  have HBW := Lib.hid hbw
  have HCO := Lib.hid hco
  have HCS := Lib.hid hcs
  have H := Lib.hid h
  clear hb hbw hco hcs h
  go_enter Try.func28, Try.ntmps28
  go_wp2_with (first | (refine wpList_build rfl 65 _ rfl cs (HBW.out _ _) ?_; go_frame) | (refine wpList_store_part rfl 65 _ _ rfl d 1 cs [.pointer (some ⟨p, 0, none⟩)] [x1, x2, x3] [natv n, .int .i64 life] 68 rfl rfl H.out rfl (by rw [HCS.out]; rfl) (by rw [HCS.out]; exact size_med) HCO.out ?_; intro w1 hg1 hk1 hs1; have c5 : w1.cell? ⟨d, 5, none⟩ = some (.int .i64 life) := (by rw [cell_of_list hg1.out, HCS.out]; rfl); have f5 := free_of_list hg1.out 5; go_frame))
  go_end0
  refine ⟨rfl, ?_, hk1.out.setCell (p := ⟨d, 5, none⟩) (by simp) _⟩
  rw [set_list hg1.out 5, HCS.out]; rfl
end Go.Proofs.Ytkpnllaegkdkkaa
