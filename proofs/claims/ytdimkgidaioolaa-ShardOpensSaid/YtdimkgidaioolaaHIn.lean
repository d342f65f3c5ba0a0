/- Laws of the fenced walk: an operation whose run is known; a variable made; a row stored whole, and loaded. -/
import Derived.Test.YtdimkgidaioolaaHBld
namespace Go.Proofs.Ytdimkgidaioolaa
open Go.RowKit
section
variable {F : Fence} {n : Nat} {P : Program} {w : World} {ops : Array Oper} {rest : List Oper} {o : Oper} {a : Act} {Q : Exit → Act → World → Prop}
theorem wpListIn_value (hg : o.guard = none) (hd : ∀ c, o.op ≠ .defer c) (ha : o.about P w a.eval = none) (v : Value) (w' : World) (hrun : (execOp a.eval o).run P w = .ok (.value v) w') (h : wpListIn F n P ops Q rest (a.put o.dst v) w') : wpListIn F n P ops Q (o :: rest) a w := by
  refine wpListIn_plain hg fun K hK => ?_
  refine ⟨fun f hf => (by rw [ha] at hf; cases hf), ?_⟩
  rw [Oper.semAt_plain F _ _ hd, hrun]
  exact hK _ _ h
theorem wpListIn_still (hg : o.guard = none) (hd : ∀ c, o.op ≠ .defer c) (ha : o.about P w a.eval = none) (w' : World) (hrun : (execOp a.eval o).run P w = .ok .skip w') (h : wpListIn F n P ops Q rest (a.put o.dst undef) w') : wpListIn F n P ops Q (o :: rest) a w := by
  refine wpListIn_plain hg fun K hK => ?_
  refine ⟨fun f hf => (by rw [ha] at hf; cases hf), ?_⟩
  rw [Oper.semAt_plain F _ _ hd, hrun]
  exact hK _ _ h
theorem wpListIn_alloc (hg : o.guard = none) (T : TypeId) (ho : o.op = .alloc T) (zs : List Value)
    (hz : ∀ w : World, (Instr.alloc T true (.tuple #[])).run P w = .ok (.pointer (some ⟨w.heap.size, 0, none⟩)) (w.alloc (.cells zs.toArray T)))
    (h : wpListIn F n P ops Q rest (a.put o.dst (.pointer (some ⟨w.heap.size, 0, none⟩))) (w.alloc (.cells zs.toArray T))) : wpListIn F n P ops Q (o :: rest) a w := by
  refine wpListIn_value hg (by rw [ho]; intro c e; cases e) (by simp [Oper.about, ho]) _ _ ?_ h
  unfold execOp
  simp only [ho, Sem.run_bind, hz, Result.andThen_ok]
  rfl
theorem wpListIn_store_whole (hg : o.guard = none) (ty : TypeId) (x y : Operand) (ho : o.op = .store ty x y)
    (b : Nat) (cells old : List Value) (t : TypeId) (hx : a.eval x = .pointer (some ⟨b, 0, none⟩)) (hy : a.eval y = .agg cells.toArray)
    (hb : w.heap[b]? = some (.cells old.toArray t (0, 0))) (hl : old.length = cells.length) (hi : (P.info? ty).map (·.size) = some cells.length) (h1 : ∀ v ∈ cells, v.oneCell' = true)
    (h : ∀ w', Hid (w'.heap[b]? = some (.cells cells.toArray t (0, 0))) → Hid (Kept w.heap.size [b] w w') → Hid (w'.heap.size = w.heap.size) → wpListIn F n P ops Q rest (a.put o.dst undef) w') : wpListIn F n P ops Q (o :: rest) a w := by
  refine wpListIn_still hg (by rw [ho]; intro c e; cases e) (by simp [Oper.about, ho]) (w.setCells b 0 cells) ?_ ?_
  · unfold execOp
    have := run_storeVar_mid (P := P) w b 0 ty cells.toArray (there_of_list hb (by simp [hl])) (by simpa using hi) (all_oneCell_toArray h1)
    simp only [ho, hx, hy, Instr.storeAt, Instr.sureAddr, Sem.run_bind, Sem.run_pure, Result.andThen_ok, this]
  · refine h _ (Lib.hid ?_) (Lib.hid (kept_setCells _ _ _ _)) (Lib.hid (setCells_size _ _ _))
    have := setCells_list cells 0 old w hb
    rw [laid_whole old cells hl.symm] at this
    exact this
theorem wpListIn_load_whole (hg : o.guard = none) (ty : TypeId) (x : Operand) (ho : o.op = .load ty x)
    (b : Nat) (cells : List Value) (t : TypeId) (hx : a.eval x = .pointer (some ⟨b, 0, none⟩)) (hb : w.heap[b]? = some (.cells cells.toArray t (0, 0))) (d : TypeDesc)
    (hu : P.underlying ty = some d) (hd : d.isRow = true) (hi : (P.info? ty).map (·.size) = some cells.length)
    (h : wpListIn F n P ops Q rest (a.put o.dst (.agg cells.toArray)) w) : wpListIn F n P ops Q (o :: rest) a w := by
  refine wpListIn_value hg (by rw [ho]; intro c e; cases e) (by simp [Oper.about, ho]) _ _ ?_ h
  unfold execOp
  simp only [ho, hx, Instr.loadAt, Instr.sureAddr, Sem.run_bind, Sem.run_pure, Result.andThen_ok, run_loadVar_mid w b 0 ty cells d (range_of_list hb) hu hd hi]
/-- .. where the operation is guarded, and carried out. -/
theorem wpListIn_load_guarded (hw : Region.wanted o (yielded ops a.tmps) = true) (ty : TypeId) (x : Operand) (ho : o.op = .load ty x)
    (b : Nat) (cells : List Value) (t : TypeId) (hx : a.eval x = .pointer (some ⟨b, 0, none⟩)) (hb : w.heap[b]? = some (.cells cells.toArray t (0, 0))) (d : TypeDesc)
    (hu : P.underlying ty = some d) (hd : d.isRow = true) (hi : (P.info? ty).map (·.size) = some cells.length)
    (h : wpListIn F n P ops Q rest (a.put o.dst (.agg cells.toArray)) w) : wpListIn F n P ops Q (o :: rest) a w := by
  refine wpListIn_step fun K hK => ?_
  rw [if_pos hw]
  refine ⟨fun f hf => (by rw [show o.about P w a.eval = none by simp [Oper.about, ho]] at hf; cases hf), ?_⟩
  rw [Oper.semAt_plain F _ _ (by rw [ho]; intro c e; cases e)]
  have hrun : (execOp a.eval o).run P w = .ok (.value (.agg cells.toArray)) w := by
    unfold execOp
    simp only [ho, hx, Instr.loadAt, Instr.sureAddr, Sem.run_bind, Sem.run_pure, Result.andThen_ok, run_loadVar_mid w b 0 ty cells d (range_of_list hb) hu hd hi]
  rw [hrun]
  exact hK _ _ h
end
end Go.Proofs.Ytdimkgidaioolaa
