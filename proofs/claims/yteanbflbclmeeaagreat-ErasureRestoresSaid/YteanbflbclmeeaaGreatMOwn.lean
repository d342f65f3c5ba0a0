/- Lists of numbers that a slice owns, and append to them. -/
import Derived.Test.YteanbflbclmeeaaGreatMCall
import Derived.Test.YteanbflbclmeeaaGreatMMath
import Derived.Deep.RegionHeld3
namespace Go.Proofs.YteanbflbclmeeaaGreat
open Go.RowKit

def iv (n : Nat) : Value := .int .i64 n
def Own (B : Nat) (v : Value) (l : List Nat) (w : World) : Prop := w.ownsRow B 3 1 v l.length (l.map iv)
theorem infoInt : (Tryz.prog.info? 3).map (fun i => (i.zero, i.size, i.bytes)) = some (some (.int .i64 0), 1, 8) := by kernel_rfl
theorem Own.nil (B : Nat) (w : World) : Own B (.slice none 0 0) [] w := World.ownsRow_nil _ _ _ _
theorem Own.lt {B : Nat} {v : Value} {l : List Nat} {w : World} (h : Own B v l w) : ∀ k, v.ownBlock = some k → B ≤ k ∧ k < w.heap.size := World.ownsRow.lt h
theorem Own.alloc {B : Nat} {v : Value} {l : List Nat} {w : World} (h : Own B v l w) (o : Obj) : Own B v l (w.alloc o) := World.ownsRow.alloc h o
theorem Own.drew {B : Nat} {v : Value} {l : List Nat} {w : World} (h : Own B v l w) : Own B v l w.drew := h
theorem Own.kept {B : Nat} {v : Value} {l : List Nat} {w w' : World} {row : Option Nat} (h : Own B v l w) (hg : w.grownBy w' row) (hne : v.ownBlock = none ∨ v.ownBlock ≠ row) : Own B v l w' := World.ownsRow.kept h hg hne
theorem Own.below {B : Nat} {v : Value} {l : List Nat} {w w' : World} (h : Own B v l w) (hb : Below w.heap.size w w') : Own B v l w' := by
  refine h.kept (row := none) ⟨hb.os, hb.tape, hb.output, hb.size, fun k hk _ => hb.block k hk⟩ ?_
  cases h2 : v.ownBlock with
  | none => exact .inl rfl
  | some k => exact .inr (fun e => by cases e)
theorem Own.form {B : Nat} {v : Value} {l : List Nat} {w : World} (h : Own B v l w) (hn : 0 < l.length) : ∃ g cap, v = .slice (some ⟨g, 0, none⟩) l.length cap ∧ l.length ≤ cap ∧ B ≤ g ∧ g < w.heap.size := by
  have hl := h.lt
  rcases h.2 with ⟨_, h0⟩ | ⟨g, cap, cur, hv, _, _, hn, _, _, _⟩
  · omega
  · exact ⟨g, cap, hv, hn, hl g (by rw [hv]; rfl)⟩
theorem Own.cell {B g cap : Nat} {l : List Nat} {w : World} (h : Own B (.slice (some ⟨g, 0, none⟩) l.length cap) l w) {j x : Nat} (hj : l[j]? = some x) : w.cell? ⟨g, j, none⟩ = some (.int .i64 (x : Int)) := by
  have := World.ownsRow.cells h (g := g) rfl j (iv x) (by rw [List.getElem?_map, hj]; rfl)
  rw [Addr.add_mid, Nat.zero_add] at this; exact this
theorem Own.cell' {B g cap L : Nat} {l : List Nat} {w : World} (h : Own B (.slice (some ⟨g, 0, none⟩) l.length cap) l w) (_ : L = l.length) {j x : Nat} (hj : l[j]? = some x) : w.cell? ⟨g, j, none⟩ = some (.int .i64 (x : Int)) := h.cell hj
theorem Own.takes {B g cap : Nat} {l : List Nat} {w : World} (h : Own B (.slice (some ⟨g, 0, none⟩) l.length cap) l w) (i : Nat) : ∀ j u, ((l.take i).map iv)[j]? = some u → w.cell? ((⟨g, 0, none⟩ : Addr).add j) = some u := by
  intro j u hu
  have hj : j < i := by have := (List.getElem?_eq_some_iff.1 hu).1; rw [List.length_map, List.length_take] at this; omega
  rw [List.getElem?_map, List.getElem?_take, if_pos hj] at hu
  exact World.ownsRow.cells h (g := g) rfl j u (by rw [List.getElem?_map]; exact hu)
theorem Own.drops {B g cap : Nat} {l : List Nat} {w : World} (h : Own B (.slice (some ⟨g, 0, none⟩) l.length cap) l w) (i : Nat) : ∀ j u, ((l.drop i).map iv)[j]? = some u → w.cell? ((⟨g, i, none⟩ : Addr).add j) = some u := by
  intro j u hu
  rw [List.getElem?_map, List.getElem?_drop] at hu
  have := World.ownsRow.cells h (g := g) rfl (i + j) u (by rw [List.getElem?_map]; exact hu)
  rw [Addr.add_mid] at this ⊢
  rw [Nat.zero_add] at this; exact this
theorem Own.ints {B g cap : Nat} {l : List Nat} {w : World} (h : Own B (.slice (some ⟨g, 0, none⟩) l.length cap) l w) : Ints g 0 l.length (fun j => ((l.getD j 0 : Nat) : Int)) w := fun j hj => by
  rw [Nat.zero_add, h.cell (x := l.getD j 0) (by rw [List.getD, List.getElem?_eq_getElem hj]; rfl)]
theorem grown_of_drew {w w' : World} {row : Option Nat} (h : w.drew.grownBy w' row) : w.grownBy w' row := ⟨h.os, h.tape, h.output, h.size, h.block⟩
theorem iv_ones (l : List Nat) : ∀ u ∈ l.map iv, u.oneCell' = true := fun u hu => by obtain ⟨x, _, rfl⟩ := List.mem_map.1 hu; rfl
theorem wp_append_ints {w : World} {o : Oper} {a : Act} {K : Act → World → Prop} {Q : Exit → Act → World → Prop} (s x : Operand) (ho : o.op = .call { callee := .builtin .append, args := #[s, x], argTypes := #[51, 51] })
    (B : Nat) (v : Value) (l : List Nat) (hs : a.eval s = v) (hown : Own B v l w) (ad : Addr) (m c : Nat) (news : List Nat) (hx : a.eval x = .slice (some ad) m c) (hl : news.length = m) (hnews : ∀ j u, (news.map iv)[j]? = some u → w.cell? (ad.add j) = some u) (hmax : l.length + m ≤ 1000000) (hB : B ≤ w.heap.size)
    (h : ∀ v' w', Hid (Own B v' (l ++ news) w') → Hid (w.grownBy w' v.ownBlock) → K (a.put o.dst v') w') : o.wp Tryz.prog a w K Q := by
  obtain ⟨i0, hi, hz0, hz1, hz2⟩ := ginfo_parts infoInt
  refine wp_append_own w s x 51 ho B 3 i0 (.int .i64 0) 1 8 Tryz.underlying51 hi hz0 hz1 hz2 rfl (by decide) v l.length (l.map iv) hs hown ad m c (news.map iv) hx (by rw [List.length_map, hl, Nat.mul_one]) hnews (iv_ones _) (by unfold maxLen; omega) (by omega) hB fun v' w' h2 h3 _ => h v' w' (Lib.hid ?_) (Lib.hid h3)
  unfold Own
  rw [List.length_append, hl, List.map_append]; exact h2
theorem wpList_append_ints {w : World} {ops : Array Oper} {rest : List Oper} {o : Oper} {a : Act} {Q : Exit → Act → World → Prop} (hgd : o.guard = none) (s x : Operand) (ho : o.op = .call { callee := .builtin .append, args := #[s, x], argTypes := #[51, 51] })
    (B : Nat) (v : Value) (l : List Nat) (hs : a.eval s = v) (hown : Own B v l w) (ad : Addr) (m c : Nat) (news : List Nat) (hx : a.eval x = .slice (some ad) m c) (hl : news.length = m) (hnews : ∀ j u, (news.map iv)[j]? = some u → w.cell? (ad.add j) = some u) (hmax : l.length + m ≤ 1000000) (hB : B ≤ w.heap.size)
    (h : ∀ v' w', Hid (Own B v' (l ++ news) w') → Hid (w.grownBy w' v.ownBlock) → wpList Tryz.prog ops Q rest (a.put o.dst v') w') : wpList Tryz.prog ops Q (o :: rest) a w :=
  wpList_plain hgd fun _ hK => wp_append_ints s x ho B v l hs hown ad m c news hx hl hnews hmax hB fun v' w' h2 h3 => hK _ _ (h v' w' h2 h3)
theorem step_append_ints {w : World} {ops : Array Oper} {o : Oper} {a : Act} {K : Act → World → Prop} {Q : Exit → Act → World → Prop} {E : Prop} (hgd : o.guard = none) (s x : Operand) (ho : o.op = .call { callee := .builtin .append, args := #[s, x], argTypes := #[51, 51] })
    (B : Nat) (v : Value) (l : List Nat) (hs : a.eval s = v) (hown : Own B v l w) (ad : Addr) (m c : Nat) (news : List Nat) (hx : a.eval x = .slice (some ad) m c) (hl : news.length = m) (hnews : ∀ j u, (news.map iv)[j]? = some u → w.cell? (ad.add j) = some u) (hmax : l.length + m ≤ 1000000) (hB : B ≤ w.heap.size) (dst : Option Tmp) (hdst : o.dst = dst)
    (h : ∀ v' w', Hid (Own B v' (l ++ news) w') → Hid (w.grownBy w' v.ownBlock) → K (a.put dst v') w') : if Region.wanted o (yielded ops a.tmps) = true then Oper.wp Tryz.prog o a w K Q else E := by
  have hw : Region.wanted o (yielded ops a.tmps) = true := by simp [Region.wanted, hgd]
  rw [if_pos hw]
  subst hdst
  exact wp_append_ints s x ho B v l hs hown ad m c news hx hl hnews hmax hB h
/-- A number in a block of its own. -/
theorem one_int (w : World) (x : Nat) : ∀ j u, (([x] : List Nat).map iv)[j]? = some u → (w.alloc (.cells #[.int .i64 (x : Int)] 3)).cell? ((⟨w.heap.size, 0, none⟩ : Addr).add j) = some u := by
  intro j u hu
  have h := heap_alloc_new w (.cells #[.int .i64 (x : Int)] 3)
  rw [Addr.add_mid, Nat.zero_add, cell_of_list (cs := [.int .i64 (x : Int)]) h]; exact hu
theorem grown_below {B : Nat} {v : Value} {l : List Nat} {w0 w w' : World} (hb : Below B w0 w) (hB : B ≤ w.heap.size) (h : Own B v l w) (hg : w.grownBy w' v.ownBlock) : Below B w0 w' := hb.grown hg hB (fun k hk => (h.lt k hk).1)
/-- What is left when one is taken out. -/
theorem perm_take (l : List Nat) (i x : Nat) (h : l[i]? = some x) : l.Perm (x :: (l.take i ++ l.drop (i + 1))) := by
  have hi : i < l.length := (List.getElem?_eq_some_iff.1 h).1
  have hx : l[i] = x := (List.getElem?_eq_some_iff.1 h).2
  have h1 : l = l.take i ++ x :: l.drop (i + 1) := by
    conv => lhs; rw [← List.take_append_drop i l, List.drop_eq_getElem_cons hi, hx]
  conv => lhs; rw [h1]
  exact List.perm_middle
/-- Rows that were picked, and those that are left. -/
structure Picked (n : Nat) (rows left : List Nat) : Prop where
  nd : (rows ++ left).Pairwise (· ≠ ·)
  lt : ∀ x ∈ rows ++ left, x < n
theorem Picked.step {n i x : Nat} {rows left : List Nat} (h : Picked n rows left) (hx : left[i]? = some x) : Picked n (rows ++ [x]) (left.take i ++ left.drop (i + 1)) := by
  have hp : (rows ++ left).Perm ((rows ++ [x]) ++ (left.take i ++ left.drop (i + 1))) := by
    rw [List.append_assoc]
    exact (perm_take left i x hx).append_left rows
  exact ⟨(hp.pairwise_iff (fun h => Ne.symm h)).1 h.nd, fun y hy => h.lt y (hp.mem_iff.2 hy)⟩
theorem Picked.inj {n : Nat} {rows left : List Nat} (h : Picked n rows left) {i j : Nat} (hi : i < rows.length) (hj : j < rows.length) (e : rows.getD i 0 = rows.getD j 0) : i = j := by
  have h1 := (List.pairwise_append.1 h.nd).1
  rw [List.pairwise_iff_getElem] at h1
  simp only [List.getD, List.getElem?_eq_getElem hi, List.getElem?_eq_getElem hj, Option.getD_some] at e
  rcases Nat.lt_trichotomy i j with hl | hl | hl
  · exact absurd e (h1 i j hi hj hl)
  · exact hl
  · exact absurd e.symm (h1 j i hj hi hl)
end Go.Proofs.YteanbflbclmeeaaGreat
