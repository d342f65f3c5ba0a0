/- Lists of bytes that a slice owns, and append to them. -/
import Derived.Test.YtnaeekjocaecmaaMRefQ
import Derived.Test.YtnaeekjocaecmaaMLent
namespace Go.Proofs.Ytnaeekjocaecmaa
open Go.RowKit

def OwnB (B : Nat) (v : Value) (l : List UInt8) (w : World) : Prop := w.ownsRow B 5 1 v l.length (l.map u8v)
theorem OwnB.nil (B : Nat) (w : World) : OwnB B (.slice none 0 0) [] w := World.ownsRow_nil _ _ _ _
theorem OwnB.lt {B : Nat} {v : Value} {l : List UInt8} {w : World} (h : OwnB B v l w) : ∀ k, v.ownBlock = some k → B ≤ k ∧ k < w.heap.size := World.ownsRow.lt h
theorem OwnB.alloc {B : Nat} {v : Value} {l : List UInt8} {w : World} (h : OwnB B v l w) (o : Obj) : OwnB B v l (w.alloc o) := World.ownsRow.alloc h o
theorem OwnB.drew {B : Nat} {v : Value} {l : List UInt8} {w : World} (h : OwnB B v l w) : OwnB B v l w.drew := h
theorem OwnB.kept {B : Nat} {v : Value} {l : List UInt8} {w w' : World} {row : Option Nat} (h : OwnB B v l w) (hg : w.grownBy w' row) (hne : v.ownBlock = none ∨ v.ownBlock ≠ row) : OwnB B v l w' := World.ownsRow.kept h hg hne
theorem OwnB.below {B : Nat} {v : Value} {l : List UInt8} {w w' : World} (h : OwnB B v l w) (hb : Below w.heap.size w w') : OwnB B v l w' := by
  refine h.kept (row := none) ⟨hb.os, hb.tape, hb.output, hb.size, fun k hk _ => hb.block k hk⟩ ?_
  cases h2 : v.ownBlock with
  | none => exact .inl rfl
  | some k => exact .inr (fun e => by cases e)
theorem OwnB.form {B : Nat} {v : Value} {l : List UInt8} {w : World} (h : OwnB B v l w) (hn : 0 < l.length) : ∃ g cap, v = .slice (some ⟨g, 0, none⟩) l.length cap ∧ l.length ≤ cap ∧ B ≤ g ∧ g < w.heap.size := by
  have hl := h.lt
  rcases h.2 with ⟨_, h0⟩ | ⟨g, cap, cur, hv, _, _, hn, _, _, _⟩
  · omega
  · exact ⟨g, cap, hv, hn, hl g (by rw [hv]; rfl)⟩
theorem OwnB.cell {B g cap : Nat} {l : List UInt8} {w : World} (h : OwnB B (.slice (some ⟨g, 0, none⟩) l.length cap) l w) {j : Nat} {x : UInt8} (hj : l[j]? = some x) : w.cell? ⟨g, j, none⟩ = some (u8v x) := by
  have := World.ownsRow.cells h (g := g) rfl j (u8v x) (by rw [List.getElem?_map, hj]; rfl)
  rw [Addr.add_mid, Nat.zero_add] at this; exact this
theorem OwnB.cell' {B g cap L : Nat} {l : List UInt8} {w : World} (h : OwnB B (.slice (some ⟨g, 0, none⟩) l.length cap) l w) (_ : L = l.length) {j : Nat} {x : UInt8} (hj : l[j]? = some x) : w.cell? ⟨g, j, none⟩ = some (u8v x) := h.cell hj
theorem OwnB.takes {B g cap : Nat} {l : List UInt8} {w : World} (h : OwnB B (.slice (some ⟨g, 0, none⟩) l.length cap) l w) (i : Nat) : ∀ j u, ((l.take i).map u8v)[j]? = some u → w.cell? ((⟨g, 0, none⟩ : Addr).add j) = some u := by
  intro j u hu
  have hj : j < i := by have := (List.getElem?_eq_some_iff.1 hu).1; rw [List.length_map, List.length_take] at this; omega
  rw [List.getElem?_map, List.getElem?_take, if_pos hj] at hu
  exact World.ownsRow.cells h (g := g) rfl j u (by rw [List.getElem?_map]; exact hu)
theorem OwnB.drops {B g cap : Nat} {l : List UInt8} {w : World} (h : OwnB B (.slice (some ⟨g, 0, none⟩) l.length cap) l w) (i : Nat) : ∀ j u, ((l.drop i).map u8v)[j]? = some u → w.cell? ((⟨g, i, none⟩ : Addr).add j) = some u := by
  intro j u hu
  rw [List.getElem?_map, List.getElem?_drop] at hu
  have := World.ownsRow.cells h (g := g) rfl (i + j) u (by rw [List.getElem?_map]; exact hu)
  rw [Addr.add_mid] at this ⊢
  rw [Nat.zero_add] at this; exact this
theorem u8v_ones (l : List UInt8) : ∀ u ∈ l.map u8v, u.oneCell' = true := fun u hu => by obtain ⟨x, _, rfl⟩ := List.mem_map.1 hu; rfl
theorem wp_append_bytes {w : World} {o : Oper} {a : Act} {K : Act → World → Prop} {Q : Exit → Act → World → Prop} (s x : Operand) (ho : o.op = .call { callee := .builtin .append, args := #[s, x], argTypes := #[22, 22] })
    (B : Nat) (v : Value) (l : List UInt8) (hs : a.eval s = v) (hown : OwnB B v l w) (ad : Addr) (m c : Nat) (news : List UInt8) (hx : a.eval x = .slice (some ad) m c) (hl : news.length = m) (hnews : ∀ j u, (news.map u8v)[j]? = some u → w.cell? (ad.add j) = some u) (hmax : l.length + m ≤ 1000000) (hB : B ≤ w.heap.size)
    (h : ∀ v' w', Hid (OwnB B v' (l ++ news) w') → Hid (w.grownBy w' v.ownBlock) → K (a.put o.dst v') w') : o.wp Try.prog a w K Q := by
  obtain ⟨i0, hi, hz0, hz1, hz2⟩ := ginfo_parts infoByte
  refine wp_append_own w s x 22 ho B 5 i0 (.int .u8 0) 1 1 Try.underlying22 hi hz0 hz1 hz2 rfl (by decide) v l.length (l.map u8v) hs hown ad m c (news.map u8v) hx (by rw [List.length_map, hl, Nat.mul_one]) hnews (u8v_ones _) (by unfold maxLen; omega) (by omega) hB fun v' w' h2 h3 _ => h v' w' (Lib.hid ?_) (Lib.hid h3)
  unfold OwnB
  rw [List.length_append, hl, List.map_append]; exact h2
theorem wpList_append_bytes {w : World} {ops : Array Oper} {rest : List Oper} {o : Oper} {a : Act} {Q : Exit → Act → World → Prop} (hgd : o.guard = none) (s x : Operand) (ho : o.op = .call { callee := .builtin .append, args := #[s, x], argTypes := #[22, 22] })
    (B : Nat) (v : Value) (l : List UInt8) (hs : a.eval s = v) (hown : OwnB B v l w) (ad : Addr) (m c : Nat) (news : List UInt8) (hx : a.eval x = .slice (some ad) m c) (hl : news.length = m) (hnews : ∀ j u, (news.map u8v)[j]? = some u → w.cell? (ad.add j) = some u) (hmax : l.length + m ≤ 1000000) (hB : B ≤ w.heap.size)
    (h : ∀ v' w', Hid (OwnB B v' (l ++ news) w') → Hid (w.grownBy w' v.ownBlock) → wpList Try.prog ops Q rest (a.put o.dst v') w') : wpList Try.prog ops Q (o :: rest) a w :=
  wpList_plain hgd fun _ hK => wp_append_bytes s x ho B v l hs hown ad m c news hx hl hnews hmax hB fun v' w' h2 h3 => hK _ _ (h v' w' h2 h3)
theorem step_append_bytes {w : World} {ops : Array Oper} {o : Oper} {a : Act} {K : Act → World → Prop} {Q : Exit → Act → World → Prop} {E : Prop} (hgd : o.guard = none) (s x : Operand) (ho : o.op = .call { callee := .builtin .append, args := #[s, x], argTypes := #[22, 22] })
    (B : Nat) (v : Value) (l : List UInt8) (hs : a.eval s = v) (hown : OwnB B v l w) (ad : Addr) (m c : Nat) (news : List UInt8) (hx : a.eval x = .slice (some ad) m c) (hl : news.length = m) (hnews : ∀ j u, (news.map u8v)[j]? = some u → w.cell? (ad.add j) = some u) (hmax : l.length + m ≤ 1000000) (hB : B ≤ w.heap.size) (dst : Option Tmp) (hdst : o.dst = dst)
    (h : ∀ v' w', Hid (OwnB B v' (l ++ news) w') → Hid (w.grownBy w' v.ownBlock) → K (a.put dst v') w') : if Region.wanted o (yielded ops a.tmps) = true then Oper.wp Try.prog o a w K Q else E := by
  have hw : Region.wanted o (yielded ops a.tmps) = true := by simp [Region.wanted, hgd]
  rw [if_pos hw]
  subst hdst
  exact wp_append_bytes s x ho B v l hs hown ad m c news hx hl hnews hmax hB h
/-- A number in a block of its own. -/
theorem one_byte (w : World) (x : UInt8) : ∀ j u, (([x] : List UInt8).map u8v)[j]? = some u → (w.alloc (.cells #[u8v x] 5)).cell? ((⟨w.heap.size, 0, none⟩ : Addr).add j) = some u := by
  intro j u hu
  have h := heap_alloc_new w (.cells #[u8v x] 5)
  rw [Addr.add_mid, Nat.zero_add, cell_of_list (cs := [u8v x]) h]; exact hu
theorem grown_belowB {B : Nat} {v : Value} {l : List UInt8} {w0 w w' : World} (hb : Below B w0 w) (hB : B ≤ w.heap.size) (h : OwnB B v l w) (hg : w.grownBy w' v.ownBlock) : Below B w0 w' := hb.grown hg hB (fun k hk => (h.lt k hk).1)
end Go.Proofs.Ytnaeekjocaecmaa
