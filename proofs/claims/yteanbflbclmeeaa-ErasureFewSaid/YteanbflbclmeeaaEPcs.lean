/- Pieces in a block of their own: made, written. -/
import Derived.Test.YteanbflbclmeeaaEOneW
namespace Go.Proofs.Yteanbflbclmeeaa
open Go.RowKit

/-- The cells of n pieces. -/
@[irreducible] def pcL (has : Nat → Bool) (dat : Nat → ByteArray) (n : Nat) : List Value := (List.range (n * 2)).map fun i => if i % 2 = 0 then Value.bool (has (i / 2)) else .string (dat (i / 2))
theorem length_pcL (has : Nat → Bool) (dat : Nat → ByteArray) (n : Nat) : (pcL has dat n).length = n * 2 := by unfold pcL; simp
theorem pcL_get {has : Nat → Bool} {dat : Nat → ByteArray} {n i : Nat} (h : i < n * 2) : (pcL has dat n)[i]? = some (if i % 2 = 0 then Value.bool (has (i / 2)) else .string (dat (i / 2))) := by unfold pcL; rw [List.getElem?_map, List.getElem?_range h]; rfl
theorem pcL_has {has : Nat → Bool} {dat : Nat → ByteArray} {n j : Nat} (h : j < n) : (pcL has dat n)[j * 2]? = some (.bool (has j)) := by rw [pcL_get (by omega), if_pos (by omega), show j * 2 / 2 = j by omega]
theorem pcL_dat {has : Nat → Bool} {dat : Nat → ByteArray} {n j : Nat} (h : j < n) : (pcL has dat n)[j * 2 + 1]? = some (.string (dat j)) := by rw [pcL_get (by omega), if_neg (by omega), show (j * 2 + 1) / 2 = j by omega]
def upd {α : Type} (f : Nat → α) (j : Nat) (x : α) : Nat → α := fun i => if i = j then x else f i
theorem upd_same {α : Type} (f : Nat → α) (j : Nat) (x : α) : upd f j x j = x := if_pos rfl
theorem upd_other {α : Type} (f : Nat → α) {i j : Nat} (x : α) (h : i ≠ j) : upd f j x i = f i := if_neg h
theorem pcL_laid (has : Nat → Bool) (dat : Nat → ByteArray) (n j : Nat) (b : Bool) (t : ByteArray) (hj : j < n) : laid (pcL has dat n) (j * 2) [.bool b, .string t] = pcL (upd has j b) (upd dat j t) n := by
  apply List.ext_getElem?
  intro i
  by_cases hi : i < n * 2
  · rw [pcL_get hi]
    by_cases h0 : i = j * 2
    · subst h0
      have := laid_get_in [Value.bool b, .string t] (j * 2) (pcL has dat n) 0 (by rw [length_pcL]; simp; omega) (by simp)
      rw [Nat.add_zero] at this
      rw [this, if_pos (by omega), show j * 2 / 2 = j by omega, upd_same]; rfl
    · by_cases h1 : i = j * 2 + 1
      · subst h1
        have := laid_get_in [Value.bool b, .string t] (j * 2) (pcL has dat n) 1 (by rw [length_pcL]; simp; omega) (by simp)
        rw [this, if_neg (by omega), show (j * 2 + 1) / 2 = j by omega, upd_same]; rfl
      · rw [laid_get_out _ _ _ _ (by simp; omega), pcL_get hi, upd_other _ _ (by omega), upd_other _ _ (by omega)]
  · rw [List.getElem?_eq_none (by rw [length_laid, length_pcL]; omega), List.getElem?_eq_none (by rw [length_pcL]; omega)]
/-- A block of n pieces. -/
def PcB (g n : Nat) (has : Nat → Bool) (dat : Nat → ByteArray) (w : World) : Prop := w.heap[g]? = some (.cells (pcL has dat n).toArray 42 (0, 0))
theorem PcB.lt {g n : Nat} {has : Nat → Bool} {dat : Nat → ByteArray} {w : World} (h : PcB g n has dat w) : g < w.heap.size := lt_of_heap h
theorem PcB.below {g n : Nat} {has : Nat → Bool} {dat : Nat → ByteArray} {w w' : World} (h : PcB g n has dat w) (hb : Below w.heap.size w w') : PcB g n has dat w' := (hb.block g h.lt).trans h
theorem PcB.px {g n : Nat} {has : Nat → Bool} {dat : Nat → ByteArray} {w : World} (h : PcB g n has dat w) : PX (some ⟨g, 0, none⟩) n has dat w := fun _ => ⟨g, 0, rfl, h.lt, fun j hj => by
  rw [cell_of_list h, cell_of_list h, Nat.zero_add]
  exact ⟨pcL_has hj, pcL_dat hj⟩⟩
theorem wpList_store_piece {ops : Array Oper} {rest : List Oper} {op : Oper} {a : Act} {w : World} {Q : Exit → Act → World → Prop} (hgd : op.guard = none) (x y : Operand) (ho : op.op = .store 42 x y)
    (g n j : Nat) (has : Nat → Bool) (dat : Nat → ByteArray) (b : Bool) (t : ByteArray) (hx : a.eval x = .pointer (some ⟨g, j * 2, none⟩)) (hy : a.eval y = .agg #[.bool b, .string t]) (H : PcB g n has dat w) (hj : j < n)
    (h : ∀ w', Hid (PcB g n (upd has j b) (upd dat j t) w') → Hid (Kept w.heap.size [g] w w') → wpList Try.prog ops Q rest (a.put op.dst undef) w') : wpList Try.prog ops Q (op :: rest) a w := by
  refine wpList_store_mid hgd 42 x y ho g (j * 2) #[.bool b, .string t] hx hy (there_of_list H (by rw [length_pcL]; simp; omega)) (by kernel_rfl) (by simp; exact ⟨rfl, rfl⟩) ?_
  refine h _ (Lib.hid ?_) (Lib.hid (kept_setCells _ _ _ _))
  have := setCells_list [Value.bool b, .string t] (j * 2) _ w H
  rw [pcL_laid has dat n j b t hj] at this
  exact this
theorem infoPiece : (Try.prog.info? 42).map (fun i => (i.zero, i.size, i.bytes)) = some (some (.agg #[.bool false, .string .empty]), 2, 24) := by kernel_rfl
theorem made_pieces (n : Nat) : madeCells (Value.agg #[.bool false, .string .empty]).cells (n * 2) = (pcL (fun _ => false) (fun _ => .empty) n).toArray := by
  apply Array.toList_inj.1
  unfold madeCells pcL
  rw [Array.toList_map, Array.toList_range]
  refine List.map_congr_left fun i _ => ?_
  rcases Nat.mod_two_eq_zero_or_one i with h | h
  · rw [if_pos h]
    show (#[Value.bool false, Value.string .empty] : Array Value)[i % 2]! = _
    rw [h]; rfl
  · rw [if_neg (by omega)]
    show (#[Value.bool false, Value.string .empty] : Array Value)[i % 2]! = _
    rw [h]; rfl
theorem make_pieces (n : Nat) (hn : n ≤ 1000) (w : World) : (Instr.makeSlice 40 (.int .i64 n) (.int .i64 n)).run Try.prog w = .ok (.slice (some ⟨w.heap.size, 0, none⟩) n n) (w.alloc (.cells (pcL (fun _ => false) (fun _ => .empty) n).toArray 42)) := by
  obtain ⟨i0, hi, hz0, hz1, hz2⟩ := ginfo_parts infoPiece
  have hrun := run_make (P := Try.prog) w 40 42 i0 (.agg #[.bool false, .string .empty]) Try.underlying40 hi hz0 .i64 .i64 (n : Int) (n : Int) (by omega) (by omega) (by rw [hz2]; omega) (by omega)
  have hm : madeCells (Value.agg #[.bool false, .string .empty]).cells ((n : Int).toNat * i0.size) = (pcL (fun _ => false) (fun _ => .empty) n).toArray := by
    rw [hz1, Int.toNat_natCast]; exact made_pieces n
  rw [hm] at hrun
  simpa only [Int.toNat_natCast] using hrun
/-! How many are there. -/
theorem here_len (has : Nat → Bool) (n : Nat) : (hereL has (n + 1)).length = (hereL has n).length + (if has n = true then 1 else 0) := by
  by_cases h : has n = true
  · rw [hereL_yes h, if_pos h, List.length_append]; rfl
  · rw [hereL_no (by simpa using h), if_neg h]; rfl
theorem here_one {h1 h2 : Nat → Bool} {q : Nat} (h : ∀ x, x ≠ q → h1 x = h2 x) : ∀ n, (hereL h1 n).length ≤ (hereL h2 n).length + (if q < n then 1 else 0) := by
  intro n
  induction n with
  | zero => rw [hereL_zero, hereL_zero]; exact Nat.zero_le _
  | succ n ih =>
    rw [here_len, here_len]
    by_cases hq : n = q
    · subst hq
      rw [if_neg (Nat.lt_irrefl n)] at ih
      rw [if_pos (Nat.lt_succ_self n)]
      split <;> split <;> omega
    · rw [h n hq, show (if q < n + 1 then (1 : Nat) else 0) = (if q < n then 1 else 0) from by
        by_cases hqn : q < n
        · rw [if_pos hqn, if_pos (by omega)]
        · rw [if_neg hqn, if_neg (by omega)]]
      omega
theorem here_all {has : Nat → Bool} {n : Nat} (h : ∀ j, j < n → has j = true) : (hereL has n).length = n := by
  induction n with
  | zero => rw [hereL_zero]; rfl
  | succ n ih => rw [here_len, ih (fun j hj => h j (by omega)), if_pos (h n (by omega))]
theorem here_none (n : Nat) : (hereL (fun _ => false) n).length = 0 := by
  induction n with
  | zero => rw [hereL_zero]; rfl
  | succ n ih => rw [here_len, ih]; rfl
end Go.Proofs.Yteanbflbclmeeaa
