/- Lists of texts that a slice owns, and append to them. -/
import Derived.Test.YteanbflbclmeeaaGreatMOwn
namespace Go.Proofs.YteanbflbclmeeaaGreat
open Go.RowKit

def sv (s : ByteArray) : Value := .string s
def OwnT (B : Nat) (v : Value) (l : List ByteArray) (w : World) : Prop := w.ownsRow B 9 1 v l.length (l.map sv)
theorem OwnT.nil (B : Nat) (w : World) : OwnT B (.slice none 0 0) [] w := World.ownsRow_nil _ _ _ _
theorem OwnT.lt {B : Nat} {v : Value} {l : List ByteArray} {w : World} (h : OwnT B v l w) : ∀ k, v.ownBlock = some k → B ≤ k ∧ k < w.heap.size := World.ownsRow.lt h
theorem OwnT.alloc {B : Nat} {v : Value} {l : List ByteArray} {w : World} (h : OwnT B v l w) (o : Obj) : OwnT B v l (w.alloc o) := World.ownsRow.alloc h o
theorem OwnT.drew {B : Nat} {v : Value} {l : List ByteArray} {w : World} (h : OwnT B v l w) : OwnT B v l w.drew := h
theorem OwnT.kept {B : Nat} {v : Value} {l : List ByteArray} {w w' : World} {row : Option Nat} (h : OwnT B v l w) (hg : w.grownBy w' row) (hne : v.ownBlock = none ∨ v.ownBlock ≠ row) : OwnT B v l w' := World.ownsRow.kept h hg hne
theorem OwnT.below {B : Nat} {v : Value} {l : List ByteArray} {w w' : World} (h : OwnT B v l w) (hb : Below w.heap.size w w') : OwnT B v l w' := by
  refine h.kept (row := none) ⟨hb.os, hb.tape, hb.output, hb.size, fun k hk _ => hb.block k hk⟩ ?_
  cases h2 : v.ownBlock with
  | none => exact .inl rfl
  | some k => exact .inr (fun e => by cases e)
theorem OwnT.form {B : Nat} {v : Value} {l : List ByteArray} {w : World} (h : OwnT B v l w) (hn : 0 < l.length) : ∃ g cap, v = .slice (some ⟨g, 0, none⟩) l.length cap ∧ l.length ≤ cap ∧ B ≤ g ∧ g < w.heap.size := by
  have hl := h.lt
  rcases h.2 with ⟨_, h0⟩ | ⟨g, cap, cur, hv, _, _, hn, _, _, _⟩
  · omega
  · exact ⟨g, cap, hv, hn, hl g (by rw [hv]; rfl)⟩
theorem OwnT.cell {B g cap : Nat} {l : List ByteArray} {w : World} (h : OwnT B (.slice (some ⟨g, 0, none⟩) l.length cap) l w) {j : Nat} {x : ByteArray} (hj : l[j]? = some x) : w.cell? ⟨g, j, none⟩ = some (.string x) := by
  have := World.ownsRow.cells h (g := g) rfl j (sv x) (by rw [List.getElem?_map, hj]; rfl)
  rw [Addr.add_mid, Nat.zero_add] at this; exact this
theorem OwnT.cell' {B g cap L : Nat} {l : List ByteArray} {w : World} (h : OwnT B (.slice (some ⟨g, 0, none⟩) l.length cap) l w) (_ : L = l.length) {j : Nat} {x : ByteArray} (hj : l[j]? = some x) : w.cell? ⟨g, j, none⟩ = some (.string x) := h.cell hj
theorem OwnT.takes {B g cap : Nat} {l : List ByteArray} {w : World} (h : OwnT B (.slice (some ⟨g, 0, none⟩) l.length cap) l w) (i : Nat) : ∀ j u, ((l.take i).map sv)[j]? = some u → w.cell? ((⟨g, 0, none⟩ : Addr).add j) = some u := by
  intro j u hu
  have hj : j < i := by have := (List.getElem?_eq_some_iff.1 hu).1; rw [List.length_map, List.length_take] at this; omega
  rw [List.getElem?_map, List.getElem?_take, if_pos hj] at hu
  exact World.ownsRow.cells h (g := g) rfl j u (by rw [List.getElem?_map]; exact hu)
theorem OwnT.drops {B g cap : Nat} {l : List ByteArray} {w : World} (h : OwnT B (.slice (some ⟨g, 0, none⟩) l.length cap) l w) (i : Nat) : ∀ j u, ((l.drop i).map sv)[j]? = some u → w.cell? ((⟨g, i, none⟩ : Addr).add j) = some u := by
  intro j u hu
  rw [List.getElem?_map, List.getElem?_drop] at hu
  have := World.ownsRow.cells h (g := g) rfl (i + j) u (by rw [List.getElem?_map]; exact hu)
  rw [Addr.add_mid] at this ⊢
  rw [Nat.zero_add] at this; exact this
theorem OwnT.texts {B g cap : Nat} {l : List ByteArray} {w : World} (h : OwnT B (.slice (some ⟨g, 0, none⟩) l.length cap) l w) : Texts g 0 l.length (fun j => l.getD j .empty) w := fun j hj => by
  rw [Nat.zero_add, h.cell (x := l.getD j .empty) (by rw [List.getD, List.getElem?_eq_getElem hj]; rfl)]
theorem sv_ones (l : List ByteArray) : ∀ u ∈ l.map sv, u.oneCell' = true := fun u hu => by obtain ⟨x, _, rfl⟩ := List.mem_map.1 hu; rfl
theorem wp_append_strs {w : World} {o : Oper} {a : Act} {K : Act → World → Prop} {Q : Exit → Act → World → Prop} (s x : Operand) (ho : o.op = .call { callee := .builtin .append, args := #[s, x], argTypes := #[25, 25] })
    (B : Nat) (v : Value) (l : List ByteArray) (hs : a.eval s = v) (hown : OwnT B v l w) (ad : Addr) (m c : Nat) (news : List ByteArray) (hx : a.eval x = .slice (some ad) m c) (hl : news.length = m) (hnews : ∀ j u, (news.map sv)[j]? = some u → w.cell? (ad.add j) = some u) (hmax : l.length + m ≤ 1000000) (hB : B ≤ w.heap.size)
    (h : ∀ v' w', Hid (OwnT B v' (l ++ news) w') → Hid (w.grownBy w' v.ownBlock) → K (a.put o.dst v') w') : o.wp Tryz.prog a w K Q := by
  obtain ⟨i0, hi, hz0, hz1, hz2⟩ := ginfo_parts infoStr
  refine wp_append_own w s x 25 ho B 9 i0 (.string .empty) 1 16 Tryz.underlying25 hi hz0 hz1 hz2 rfl (by decide) v l.length (l.map sv) hs hown ad m c (news.map sv) hx (by rw [List.length_map, hl, Nat.mul_one]) hnews (sv_ones _) (by unfold maxLen; omega) (by omega) hB fun v' w' h2 h3 _ => h v' w' (Lib.hid ?_) (Lib.hid h3)
  unfold OwnT
  rw [List.length_append, hl, List.map_append]; exact h2
theorem wpList_append_strs {w : World} {ops : Array Oper} {rest : List Oper} {o : Oper} {a : Act} {Q : Exit → Act → World → Prop} (hgd : o.guard = none) (s x : Operand) (ho : o.op = .call { callee := .builtin .append, args := #[s, x], argTypes := #[25, 25] })
    (B : Nat) (v : Value) (l : List ByteArray) (hs : a.eval s = v) (hown : OwnT B v l w) (ad : Addr) (m c : Nat) (news : List ByteArray) (hx : a.eval x = .slice (some ad) m c) (hl : news.length = m) (hnews : ∀ j u, (news.map sv)[j]? = some u → w.cell? (ad.add j) = some u) (hmax : l.length + m ≤ 1000000) (hB : B ≤ w.heap.size)
    (h : ∀ v' w', Hid (OwnT B v' (l ++ news) w') → Hid (w.grownBy w' v.ownBlock) → wpList Tryz.prog ops Q rest (a.put o.dst v') w') : wpList Tryz.prog ops Q (o :: rest) a w :=
  wpList_plain hgd fun _ hK => wp_append_strs s x ho B v l hs hown ad m c news hx hl hnews hmax hB fun v' w' h2 h3 => hK _ _ (h v' w' h2 h3)
theorem step_append_strs {w : World} {ops : Array Oper} {o : Oper} {a : Act} {K : Act → World → Prop} {Q : Exit → Act → World → Prop} {E : Prop} (hgd : o.guard = none) (s x : Operand) (ho : o.op = .call { callee := .builtin .append, args := #[s, x], argTypes := #[25, 25] })
    (B : Nat) (v : Value) (l : List ByteArray) (hs : a.eval s = v) (hown : OwnT B v l w) (ad : Addr) (m c : Nat) (news : List ByteArray) (hx : a.eval x = .slice (some ad) m c) (hl : news.length = m) (hnews : ∀ j u, (news.map sv)[j]? = some u → w.cell? (ad.add j) = some u) (hmax : l.length + m ≤ 1000000) (hB : B ≤ w.heap.size) (dst : Option Tmp) (hdst : o.dst = dst)
    (h : ∀ v' w', Hid (OwnT B v' (l ++ news) w') → Hid (w.grownBy w' v.ownBlock) → K (a.put dst v') w') : if Region.wanted o (yielded ops a.tmps) = true then Oper.wp Tryz.prog o a w K Q else E := by
  have hw : Region.wanted o (yielded ops a.tmps) = true := by simp [Region.wanted, hgd]
  rw [if_pos hw]
  subst hdst
  exact wp_append_strs s x ho B v l hs hown ad m c news hx hl hnews hmax hB h
/-- A number in a block of its own. -/
theorem one_str (w : World) (x : ByteArray) : ∀ j u, (([x] : List ByteArray).map sv)[j]? = some u → (w.alloc (.cells #[.string x] 9)).cell? ((⟨w.heap.size, 0, none⟩ : Addr).add j) = some u := by
  intro j u hu
  have h := heap_alloc_new w (.cells #[.string x] 9)
  rw [Addr.add_mid, Nat.zero_add, cell_of_list (cs := [.string x]) h]; exact hu
theorem grown_belowT {B : Nat} {v : Value} {l : List ByteArray} {w0 w w' : World} (hb : Below B w0 w) (hB : B ≤ w.heap.size) (h : OwnT B v l w) (hg : w.grownBy w' v.ownBlock) : Below B w0 w' := hb.grown hg hB (fun k hk => (h.lt k hk).1)
end Go.Proofs.YteanbflbclmeeaaGreat
