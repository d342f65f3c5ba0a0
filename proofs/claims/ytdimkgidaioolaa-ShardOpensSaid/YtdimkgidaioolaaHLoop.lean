/- What holds between two rounds over layer 9's iterator: what a builder has, and what lies still. -/
import Derived.Test.YtdimkgidaioolaaHIn
namespace Go.Proofs.Ytdimkgidaioolaa
open Go.RowKit

/-- What a builder at sb has behind j rounds; the blocks that lie still; what is left of the text lies at Bt. -/
def LoopI (w : World) (sb Bt : Nat) (fx : List (Nat × Obj)) (l : Nat → List UInt8) (j : Nat) (W : World) : Prop :=
  Bldr sb (l j) W ∧ Below w.heap.size w W ∧ (∀ p ∈ fx, W.heap[p.1]? = some p.2) ∧ ∃ x, W.heap[Bt]? = some (.cells #[.string x] 9 (0, 0))
theorem cells_ne {W : World} {k l : Nat} {o : Obj} {cs : Array Value} {T : TypeId} {fr : Nat × Nat} (h : W.heap[k]? = some (.cells cs T fr)) (hl : W.heap[l]? = some o) (ho : o.isCells = false) : k ≠ l := by
  intro e; subst e; rw [h] at hl; cases hl; simp [Obj.isCells] at ho
theorem obj_ne {W : World} {k l : Nat} {p o : Obj} (h : W.heap[k]? = some p) (hp : p.isCells = true) (hl : W.heap[l]? = some o) (ho : o.isCells = false) : k ≠ l := by
  intro e; subst e; rw [h] at hl; cases hl; rw [hp] at ho; cases ho
theorem LoopI.put {w : World} {sb Bt : Nat} {fx : List (Nat × Obj)} {l : Nat → List UInt8} (hfx : ∀ p ∈ fx, p.2.isCells = true) {j : Nat} {W : World} {k : Nat} {o : Obj} (o' : Obj) (hk : w.heap.size ≤ k) (ho : W.heap[k]? = some o) (hc : o.isCells = false) (h : LoopI w sb Bt fx l j W) : LoopI w sb Bt fx l j (W.putObj k o') := by
  obtain ⟨h1, h2, h3, x, h4⟩ := h
  refine ⟨h1.keep (fun i cs T fr e _ => World.putObj_heap_other (cells_ne e ho hc)), h2.grown (grownBy_putObj' W k o') h2.size (fun i e => by cases e; exact hk), fun p hp => ?_, x, (World.putObj_heap_other (cells_ne h4 ho hc)).trans h4⟩
  exact (World.putObj_heap_other (obj_ne (h3 p hp) (hfx p hp) ho hc)).trans (h3 p hp)
theorem LoopI.abides {w : World} {sb Bt B : Nat} {fx : List (Nat × Obj)} {l : Nat → List UInt8} (hsb : sb ≠ Bt) (hBt : w.heap.size ≤ Bt) (hB : w.heap.size ≤ B) (hfx : ∀ p ∈ fx, p.2.isCells = true) (hne : ∀ p ∈ fx, p.1 ≠ Bt) : AbidesCut B Bt 9 (LoopI w sb Bt fx l) where
  alloc := by
    rintro j W o ⟨h1, h2, h3, x, h4⟩
    exact ⟨h1.keep (fun i cs T fr e _ => Below.heap_alloc W o i (lt_of_heap e)), h2.alloc h2.size _, fun p hp => (Below.heap_alloc W o _ (lt_of_heap (h3 p hp))).trans (h3 p hp), x, (Below.heap_alloc W o _ (lt_of_heap h4)).trans h4⟩
  put := fun j W k o o' hk ho hc h => h.put hfx o' (Nat.le_trans hB hk) ho hc
  turn := by
    rintro j W x y hx ⟨h1, h2, h3, _, _⟩
    refine ⟨h1.keep (fun i cs T fr e hi => Below.heap_setCell _ _ _ _ ?_), h2.setCell (p := ⟨Bt, 0, none⟩) hBt _, fun p hp => (Below.heap_setCell _ _ _ _ (hne p hp)).trans (h3 p hp), y, ?_⟩
    · rcases hi with rfl | hi
      · exact hsb
      · intro e2
        simp only at e2
        subst e2
        rw [hx] at e
        cases e
        exact absurd hi (by decide)
    · rw [set_list (cs := [_]) hx]; rfl
/-- The round's end. -/
theorem LoopI.next {w : World} {sb Bt Bs B : Nat} {fx : List (Nat × Obj)} {l : Nat → List UInt8} {Ix : Code → Nat → World → Prop} {a : Act} (hsb : sb < B) (hsB : sb ≠ Bt) (hn : ∀ p ∈ fx, notBytes p.2 = true) (hne : ∀ p ∈ fx, p.1 ≠ sb) {j : Nat} {W W' : World} (h : LoopI w sb Bt fx l j W) {o : Obj} (hBs : (Bs, o) ∈ fx)
    (hf : Far sb W W') (hb : Below w.heap.size W W') (hl : Bldr sb (l (j + 1)) W') : cutPost B Bt Bs (LoopI w sb Bt fx l) Ix j W .normal a W' := by
  obtain ⟨h1, h2, h3, x, h4⟩ := h
  have e4 : W'.heap[Bt]? = some (.cells #[.string x] 9 (0, 0)) := hf.2 _ _ (Ne.symm hsB) rfl h4
  have e3 : ∀ p ∈ fx, W'.heap[p.1]? = some p.2 := fun p hp => hf.2 _ _ (hne p hp) (hn p hp) (h3 p hp)
  refine ⟨fun k o hk e hc => hf.2 k o (by omega) (by cases o <;> first | rfl | simp [Obj.isCells] at hc) e, ⟨e4.trans h4.symm, (e3 _ hBs).trans (h3 _ hBs).symm⟩, hl, h2.trans hb, e3, x, e4⟩
end Go.Proofs.Ytdimkgidaioolaa
