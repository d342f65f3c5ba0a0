/- The program's writer: a text is added. -/
import Derived.Test.YthfnlnhehececaaDoorNWord
import Derived.Lib.AppendStr
namespace Go.Proofs.YthfnlnhehececaaDoor
open Go Go.RowKit

/-- A writer in a block, and what is written. -/
def Wr (w : World) (lo wb : Nat) (T : List UInt8) : Prop := ∃ sv, w.heap[wb]? = some (.cells [sv].toArray 71 (0, 0)) ∧ w.ownsRow lo 5 1 sv T.length (T.map u8v) ∧ wb < lo ∧ lo ≤ w.heap.size
/-- A writing call leaves what is no row of bytes as it was. -/
structure Fr (lo wb : Nat) (w w' : World) : Prop where
  kept : Kept lo [wb] w w'
  ty : ∀ b cs ty fr, w.heap[b]? = some (.cells cs ty fr) → b ≠ wb → ty ≠ 5 → w'.heap[b]? = some (.cells cs ty fr)
theorem Fr.refl (lo wb : Nat) (w : World) : Fr lo wb w w := ⟨Kept.refl _ _ _, fun _ _ _ _ h _ _ => h⟩
theorem Fr.trans {lo wb : Nat} {a b c : World} (h : Fr lo wb a b) (k : Fr lo wb b c) : Fr lo wb a c := ⟨h.kept.trans k.kept, fun g cs ty fr hg h1 h2 => k.ty g cs ty fr (h.ty g cs ty fr hg h1 h2) h1 h2⟩
theorem Fr.of_below {lo wb : Nat} {a b : World} (h : Below a.heap.size a b) (hl : lo ≤ a.heap.size) : Fr lo wb a b := ⟨(Kept.of_below h).mono hl (fun _ _ h => h), fun g _ _ _ hg _ _ => (h.block g (lt_of_heap hg)).trans hg⟩
/-- What a writing call comes to. -/
def OutW (lo wb : Nat) (T X : List UInt8) (w : World) (e : Ending) (w' : World) : Prop :=
  if T.length + X.length ≤ 8000 then e = .returned (.tuple #[]) ∧ Wr w' lo wb (T ++ X) ∧ Fr lo wb w w' else e = .panicked (rfc 56 0) ∧ Fr lo wb w w'
theorem row_slice {w : World} {lo n : Nat} {el : TypeId} {s : Nat} {v : Value} {xs : List Value} (h : w.ownsRow lo el s v n xs) : ∃ a c, v = .slice a n c := by
  rcases h.2 with ⟨h0, h1⟩ | ⟨g, cap, cur, h0, _⟩
  · exact ⟨none, 0, by rw [h0, h1]⟩
  · exact ⟨_, cap, h0⟩
theorem Wr.keep {w w' : World} {lo wb : Nat} {T : List UInt8} (h : Wr w lo wb T) (hk : Kept w.heap.size [] w w') : Wr w' lo wb T := by
  obtain ⟨sv, h1, h2, h3, h4⟩ := h
  have hs := hk.size
  refine ⟨sv, hk.heap h1 (lt_of_heap h1) (by simp), ownsRow_frame h2 fun g hg => ?_, h3, by omega⟩
  obtain ⟨cur, fr, hg2⟩ := own_block h2 hg
  exact hk.block g (lt_of_heap hg2) (by simp)
theorem Wr.below {w w' : World} {lo wb : Nat} {T : List UInt8} (h : Wr w lo wb T) (hk : Below w.heap.size w w') : Wr w' lo wb T := h.keep (Kept.of_below hk)
theorem infoU8 : (Tryd.prog.info? 5).map (fun i => (i.zero, i.size, i.bytes)) = some (some (.int .u8 0), 1, 1) := by kernel_rfl
theorem strCells_bs (X : List UInt8) : Lib.strCells (bs X) = X.map u8v := by
  unfold Lib.strCells
  rw [bs_list]
  rfl
theorem add_laid {w w2 : World} {lo wb n : Nat} {v : Value} {xs : List Value} (H1 : Hid (w.heap[wb]? = some (.cells [v].toArray 71 (0, 0)))) (H2 : Hid (w.ownsRow lo 5 1 v n xs)) (hg : w.grownBy w2 v.ownBlock) (h3 : wb < lo) (h4 : lo ≤ w.heap.size) :
    w2.cell? ⟨wb, 0, none⟩ = some v ∧ w2.frozen? ⟨wb, 0, none⟩ = false ∧ Hid (w2.heap[wb]? = some (.cells [v].toArray 71 (0, 0))) ∧ Hid (Kept lo [wb] w w2) := by
  have hlo : ∀ g, v.ownBlock = some g → lo ≤ g := fun g hg => by
    rcases H2.out.2 with ⟨h0, _⟩ | ⟨g', cap, cur, h0, hB, _⟩
    · rw [h0] at hg; cases hg
    · rw [h0] at hg
      obtain rfl : g' = g := by simpa [Value.ownBlock] using hg
      exact hB
  have h : w2.heap[wb]? = some (.cells [v].toArray 71 (0, 0)) := (hg.block wb (by omega) (fun e => by have := hlo wb e.symm; omega)).trans H1.out
  exact ⟨by rw [cell_of_list h]; rfl, free_of_list h 0, Lib.hid h, Lib.hid ⟨hg.os, hg.tape, hg.output, hg.size, fun g h1 _ => hg.block g (by omega) (fun e => by have := hlo g e.symm; omega)⟩⟩
set_option maxRecDepth 100000 in
set_option maxHeartbeats 2000000 in
theorem wadd_any (lo wb : Nat) (T X : List UInt8) (hT : T.length ≤ 8000) (hX : X.length ≤ 140737488355328) (w : World) (hw : Wr w lo wb T) : Calls Tryd.prog 55 #[.pointer (some ⟨wb, 0, none⟩), .string (bs X)] w (OutW lo wb T X w) := by
  obtain ⟨sv, h1, h2, h3, h4⟩ := hw
  obtain ⟨i, hi, hz0, hz1, hz2⟩ := info_parts infoU8
  obtain ⟨a, c, rfl⟩ := row_slice h2
  have c0 : w.cell? ⟨wb, 0, none⟩ = some (.slice a T.length c) := by rw [cell_of_list h1]; rfl
  have hss : (bs X).size = X.length := bs_size X
  have hsc := strCells_bs X
  have hsc := Lib.hid hsc
  have H1 := Lib.hid h1
  have H2 := Lib.hid h2
  by_cases hl : T.length + X.length ≤ 8000
  · have hlI : ¬ (8000 : Int) < (T.length : Int) + (X.length : Int) := by omega
    have HO : OutW lo wb T X w = fun e w' => e = .returned (.tuple #[]) ∧ Wr w' lo wb (T ++ X) ∧ Fr lo wb w w' := by funext e w'; unfold OutW; rw [if_pos hl]
    rw [HO]
    clear HO h1 h2
    generalize bs X = s at *
    go_enter Tryd.func55, Tryd.ntmps55
    go_wp2_with (first | (refine Lib.wpList_append_own_string w rfl _ _ 69 9 rfl lo 5 i Tryd.underlying69 Tryd.underlying9 hi hz0 hz1 hz2 (.slice a T.length c) T.length (T.map u8v) rfl H2.out s rfl (by unfold maxLen; omega) (by omega) h4 ?_; intro v2 w2 ho2 hg2 _; obtain ⟨a2, e2, rfl⟩ := row_slice ho2; obtain ⟨d0, f0, G2, K2⟩ := add_laid H1 H2 hg2 h3 h4; go_frame))
    have k3 := kset (w := w2) wb 0 (.slice a2 (T.length + X.length) e2)
    have hgs := hg2.size
    refine normal_end rfl rfl ⟨rfl, ⟨_, set_list G2.out 0 _, ?_, h3, by simp [World.setCell]; omega⟩, ⟨K2.out.trans (k3.mono (by omega) (fun _ _ h => h)), fun b cs ty fr hb hb1 hb2 => ?_⟩⟩
    case refine_2 =>
      rw [heap_setCell_other _ _ _ _ (fun e => hb1 e)]
      refine (hg2.block b (lt_of_heap hb) (fun e => ?_)).trans hb
      obtain ⟨cur, fr2, hg3⟩ := own_block H2.out e.symm
      rw [hb] at hg3
      simp only [Option.some.injEq, Obj.cells.injEq] at hg3
      exact hb2 hg3.2.1
    rw [hss, hsc.out] at ho2
    have hr : (w2.setCell ⟨wb, 0, none⟩ (.slice a2 (T.length + X.length) e2)).ownsRow lo 5 1 (.slice a2 (T.length + X.length) e2) (T.length + X.length) (T.map u8v ++ X.map u8v) := ownsRow_frame ho2 fun g hg => by
      obtain ⟨cur, fr, hg2⟩ := own_block ho2 hg
      refine heap_setCell_other _ _ _ _ fun e => ?_
      have hlo : lo ≤ g := by
        rcases ho2.2 with ⟨h0, _⟩ | ⟨g', cap, cur, h0, hB, _⟩
        · rw [h0] at hg; cases hg
        · rw [h0] at hg
          obtain rfl : g' = g := by simpa [Value.ownBlock] using hg
          exact hB
      have : g = wb := e
      omega
    rw [List.length_append, List.map_append]
    exact hr
  · have hlI : (8000 : Int) < (T.length : Int) + (X.length : Int) := by omega
    have HO : OutW lo wb T X w = fun e w' => e = .panicked (rfc 56 0) ∧ Fr lo wb w w' := by funext e w'; unfold OutW; rw [if_neg hl]
    rw [HO]
    clear HO h1 h2
    generalize bs X = s at *
    go_enter Tryd.func55, Tryd.ntmps55
    go_wp2_with fail
    exact ⟨rfl, rfl, Fr.refl _ _ _⟩
end Go.Proofs.YthfnlnhehececaaDoor
