/- A region that draws its order, by what holds whichever of its operations are done. -/
import Derived.Test.YthfnlnhehececaaDoorProg
import Derived.RegionTactic
import Derived.Orders
import Derived.WalkKit
namespace Go.Proofs.YthfnlnhehececaaDoor
open Go Go.RowKit

theorem countP_less {α : Type} {p q : α → Bool} (hpq : ∀ x, q x = true → p x = true) {i : α} (hp : p i = true) (hq : q i = false) : ∀ l : List α, i ∈ l → l.countP q < l.countP p
  | x :: l, h => by
    have le : ∀ l : List α, l.countP q ≤ l.countP p := fun l => List.countP_mono_left (fun x _ => hpq x)
    by_cases e : i = x
    · subst e
      rw [List.countP_cons_of_pos hp, List.countP_cons_of_neg (by rw [hq]; decide)]
      have := le l; omega
    · have hm : i ∈ l := by
        rcases List.mem_cons.1 h with h | h
        · exact absurd h e
        · exact h
      have ih := countP_less hpq hp hq l hm
      by_cases hx : q x = true
      · rw [List.countP_cons_of_pos hx, List.countP_cons_of_pos (hpq x hx)]; omega
      · rw [List.countP_cons_of_neg hx]
        by_cases hx2 : p x = true
        · rw [List.countP_cons_of_pos hx2]; omega
        · rw [List.countP_cons_of_neg hx2]; exact ih
/-- Every operation waits for earlier ones alone. -/
def onward (ops : Array Oper) : Bool := (List.range ops.size).all fun i => ((ops[i]?).map (·.after.all fun e => !Region.binds .any e || decide (e.on < i))).getD true
theorem onward_spec {ops : Array Oper} (h : onward ops = true) {i : Nat} {o : Oper} (ho : ops[i]? = some o) (e : Edge) (he : e ∈ o.after) (hb : Region.binds .any e = true) : e.on < i := by
  unfold onward at h
  rw [List.all_eq_true] at h
  have hi : i < ops.size := (Array.getElem?_eq_some_iff.1 ho).1
  have := h i (List.mem_range.2 hi)
  rw [ho, Option.map_some, Option.getD_some, Array.all_eq_true_iff_forall_mem] at this
  have := this e he
  rw [hb] at this
  simpa using this
def undone (ops : Array Oper) (listed : Array Bool) : Nat := (List.range ops.size).countP fun i => !listed.getD i true
theorem all_done {ops : Array Oper} {listed : Array Bool} (ho : onward ops = true) (hs : listed.size = ops.size) (hr : Region.ready .any ops listed = []) : ∀ n i, i < n → i < ops.size → listed.getD i false = true
  | 0, i, h, _ => by omega
  | n + 1, i, h, hi => by
    cases hl : listed.getD i false with
    | true => rfl
    | false =>
      exfalso
      have hi2 : i < listed.size := by omega
      have : i ∈ Region.ready .any ops listed := by
        refine mem_ready.2 ⟨?_, ops[i], Array.getElem?_eq_getElem hi, fun e he hbe => ?_⟩
        · simp only [Array.getD, hi2, dite_true] at hl ⊢; exact hl
        · have := onward_spec ho (Array.getElem?_eq_getElem hi) e he hbe
          exact all_done ho hs hr n e.on (by omega) (by omega)
      rw [hr] at this
      cases this
theorem wp_region_inv {P : Program} {id : Nat} {ops : Array Oper} {Q : Exit → Act → World → Prop} {a : Act} {w : World} (hm : P.follows .mixedOrders = true) (ho : onward ops = true) (I : (Nat → Bool) → Act → World → Prop)
    (h0 : I (fun _ => false) a w.drew)
    (hs : ∀ D a w i o, I D a w → ops[i]? = some o → D i = false → (∀ e ∈ o.after, Region.binds .any e = true → D e.on = true) → wpOp P ops Q i (fun a' w' => I (fun k => if k = i then true else D k) a' w') a w)
    (he : ∀ D a w, I D a w → (∀ i, i < ops.size → D i = true) → Q .normal a w) : (Code.region id ops true).wp P Q a w := by
  have key : ∀ fuel listed a w, listed.size = ops.size → undone ops listed ≤ fuel → I (fun k => listed.getD k false) a w → wpAny P .any ops Q fuel listed a w := by
    intro fuel
    induction fuel with
    | zero =>
      intro listed a w hsz hu hI
      have hall : ∀ i, i < ops.size → listed.getD i true = true := fun i hi => by
        cases hl : listed.getD i true with
        | true => rfl
        | false =>
          have : 0 < undone ops listed := List.countP_pos_iff.2 ⟨i, List.mem_range.2 hi, by rw [hl]; rfl⟩
          omega
      refine ⟨?_, he _ a w hI fun i hi => ?_⟩
      · apply List.eq_nil_iff_forall_not_mem.2
        intro i hi
        have h1 := (mem_ready.1 hi).1
        obtain ⟨_, o, hoi, _⟩ := mem_ready.1 hi
        rw [hall i (Array.getElem?_eq_some_iff.1 hoi).1] at h1
        cases h1
      · have := hall i hi
        have hi2 : i < listed.size := by omega
        simp only [Array.getD, hi2, dite_true] at this ⊢
        exact this
    | succ fuel ih =>
      intro listed a w hsz hu hI
      refine ⟨fun hr => he _ a w hI fun i hi => all_done ho hsz hr (i + 1) i (by omega) hi, fun i hi => ?_⟩
      obtain ⟨h1, o, hoi, hall⟩ := mem_ready.1 hi
      have hi2 : i < listed.size := by rw [hsz]; exact (Array.getElem?_eq_some_iff.1 hoi).1
      have hD : listed.getD i false = false := by simp only [Array.getD, hi2, dite_true] at h1 ⊢; exact h1
      refine wpOp_mono (fun a' w' hI' => ih _ a' w' (by simp [hsz]) ?_ ?_) (hs _ a w i o hI hoi hD hall)
      · have : undone ops (listed.setIfInBounds i true) < undone ops listed := by
          refine countP_less (i := i) (fun k hk => ?_) (by simp only [h1]; rfl) ?_ _ (List.mem_range.2 (by omega))
          · by_cases e : i = k
            · subst e
              simp [Array.getD, hi2] at hk
            · rw [getD_set_ne true e] at hk
              exact hk
          · simp [Array.getD, hi2]
        omega
      · have e : (fun k => (listed.setIfInBounds i true).getD k false) = fun k => if k = i then true else listed.getD k false := by
          funext k
          by_cases e : k = i
          · subst e
            simp [Array.getD, hi2]
          · rw [if_neg e, getD_set_ne false (Ne.symm e)]
        rw [e]
        exact hI'
  exact wp_region_any hm (key ops.size (Array.replicate ops.size false) a w.drew (by simp) (by unfold undone; exact Nat.le_trans List.countP_le_length (by simp)) (by
    have e : (fun k => (Array.replicate ops.size false).getD k false) = fun _ => false := by
      funext k
      simp only [Array.getD]
      split <;> simp
    rw [e]
    exact h0))
theorem wpOp_run {P : Program} {ops : Array Oper} {Q : Exit → Act → World → Prop} {K : Act → World → Prop} {a : Act} {w w' : World} {i : Nat} {o : Oper} (ho : ops[i]? = some o) (hg : o.guard = none) (v : Value) (hrun : (execOp a.eval o).run P w = .ok (.value v) w') (h : K (a.put o.dst v) w') : wpOp P ops Q i K a w := by
  have hw : Region.wanted o (yielded ops a.tmps) = true := by simp [Region.wanted, hg]
  unfold wpOp
  rw [ho]
  simp only [hw, if_true]
  left
  unfold Oper.wp
  rw [hrun]
  exact h
theorem wpOp_call {P : Program} {ops : Array Oper} {Q : Exit → Act → World → Prop} {K : Act → World → Prop} {a : Act} {w : World} {i : Nat} {o : Oper} (ho : ops[i]? = some o) (hg : o.guard = none) (f : FuncId) (args : Array Value) (hrun : (execOp a.eval o).run P w = .ok (.enter f args) w)
    (h : Calls P f args w fun e w' => (∃ v, e = .returned v ∧ K (a.put o.dst v) w') ∨ (∃ ch, e = .panicked ch ∧ Q (.panic ch) a w')) : wpOp P ops Q i K a w := by
  have hw : Region.wanted o (yielded ops a.tmps) = true := by simp [Region.wanted, hg]
  unfold wpOp
  rw [ho]
  simp only [hw, if_true]
  left
  unfold Oper.wp
  rw [hrun, Oper.upon_enter]
  refine h.mono fun e w' hh => ?_
  rcases hh with ⟨v, rfl, hk⟩ | ⟨ch, rfl, hk⟩
  · exact hk
  · exact hk
theorem put_get (a : Act) (d e : Nat) (v : Value) (hd : d < a.tmps.size) : (a.put (some d) v).tmps.getD e undef = if e = d then v else a.tmps.getD e undef := by
  unfold Act.put
  by_cases h : e = d
  · subst h
    simp [hd]
  · rw [if_neg h]
    simp [Array.getElem?_setIfInBounds_ne (Ne.symm h)]
theorem put_size (a : Act) (d : Option Tmp) (v : Value) : (a.put d v).tmps.size = a.tmps.size := by cases d <;> simp [Act.put]
theorem put_defers (a : Act) (d : Option Tmp) (v : Value) : (a.put d v).defers = a.defers := by cases d <;> rfl
theorem eval_tmp (a : Act) (t : Tmp) : a.eval (.tmp t) = a.tmps.getD t undef := rfl
theorem eval_const (a : Act) (v : Value) : a.eval (.const v) = v := rfl
theorem get_other (a : Act) {d e : Nat} (v : Value) (h : e ≠ d) : (a.put (some d) v).tmps.getD e undef = a.tmps.getD e undef := by
  unfold Act.put
  simp [Array.getElem?_setIfInBounds_ne (Ne.symm h)]
theorem get_same (a : Act) {d : Nat} (v : Value) (h : d < a.tmps.size) : (a.put (some d) v).tmps.getD d undef = v := by
  unfold Act.put
  simp [h]
theorem wpOp_skip {P : Program} {ops : Array Oper} {Q : Exit → Act → World → Prop} {K : Act → World → Prop} {a : Act} {w w' : World} {i : Nat} {o : Oper} (ho : ops[i]? = some o) (hg : o.guard = none) (hd : o.dst = none) (hrun : (execOp a.eval o).run P w = .ok .skip w') (h : K a w') : wpOp P ops Q i K a w := by
  have hw : Region.wanted o (yielded ops a.tmps) = true := by simp [Region.wanted, hg]
  unfold wpOp
  rw [ho]
  simp only [hw, if_true]
  left
  unfold Oper.wp
  rw [hrun]
  show K (a.put o.dst undef) w'
  rw [hd]
  exact h
end Go.Proofs.YthfnlnhehececaaDoor
