/- Merged: MLent MOwnB MLent2 MLent3 (for a claim's number of files). -/
import Derived.Test.YteanbflbclmeeaaGreatMRefP
import Derived.Test.YteanbflbclmeeaaGreatMRefQ
/- What MatrixApplies and MatrixReckons hand over: whether a matrix is wide, a matrix lent. -/
namespace Go.Proofs.YteanbflbclmeeaaGreat
open Go.RowKit

@[irreducible] def wideB (r c : Int) (len : Nat) : Bool := decide (40 < r ∨ 40 < c ∨ 1600 < len)
theorem wideB_eq (r c : Int) (len : Nat) : wideB r c len = decide (40 < r ∨ 40 < c ∨ 1600 < len) := by unfold wideB; rfl
end Go.Proofs.YteanbflbclmeeaaGreat

/- Lists of bytes that a slice owns, and append to them. -/
namespace Go.Proofs.YteanbflbclmeeaaGreat
open Go.RowKit

def OwnB (B : Nat) (v : Value) (l : List UInt8) (w : World) : Prop := w.ownsRow B 5 1 v l.length (l.map u8v)
theorem OwnB.nil (B : Nat) (w : World) : OwnB B (.slice none 0 0) [] w := World.ownsRow_nil _ _ _ _
theorem OwnB.lt {B : Nat} {v : Value} {l : List UInt8} {w : World} (h : OwnB B v l w) : ∀ k, v.ownBlock = some k → B ≤ k ∧ k < w.heap.size := World.ownsRow.lt h
theorem OwnB.alloc {B : Nat} {v : Value} {l : List UInt8} {w : World} (h : OwnB B v l w) (o : Obj) : OwnB B v l (w.alloc o) := World.ownsRow.alloc h o
theorem OwnB.drew {B : Nat} {v : Value} {l : List UInt8} {w : World} (h : OwnB B v l w) : OwnB B v l w.drew := h
theorem OwnB.kept {B : Nat} {v : Value} {l : List UInt8} {w w' : World} {row : Option Nat} (h : OwnB B v l w) (hg : w.grownBy w' row) (hne : v.ownBlock = none ∨ v.ownBlock ≠ row) : OwnB B v l w' := World.ownsRow.kept h hg hne
theorem OwnB.below {B : Nat} {v : Value} {l : List UInt8} {w w' : World} (h : OwnB B v l w) (hb : Below w.heap.size w w') : OwnB B v l w' := by
  refine h.kept (row := none) ⟨hb.os, hb.tape, hb.output, hb.size, fun k hk _ => hb.block k hk⟩ ?_
  cases h2 : v.ownBlock with
  | none => exact .inl rfl
  | some k => exact .inr (fun e => by cases e)
theorem OwnB.form {B : Nat} {v : Value} {l : List UInt8} {w : World} (h : OwnB B v l w) (hn : 0 < l.length) : ∃ g cap, v = .slice (some ⟨g, 0, none⟩) l.length cap ∧ l.length ≤ cap ∧ B ≤ g ∧ g < w.heap.size := by
  have hl := h.lt
  rcases h.2 with ⟨_, h0⟩ | ⟨g, cap, cur, hv, _, _, hn, _, _, _⟩
  · omega
  · exact ⟨g, cap, hv, hn, hl g (by rw [hv]; rfl)⟩
theorem OwnB.cell {B g cap : Nat} {l : List UInt8} {w : World} (h : OwnB B (.slice (some ⟨g, 0, none⟩) l.length cap) l w) {j : Nat} {x : UInt8} (hj : l[j]? = some x) : w.cell? ⟨g, j, none⟩ = some (u8v x) := by
  have := World.ownsRow.cells h (g := g) rfl j (u8v x) (by rw [List.getElem?_map, hj]; rfl)
  rw [Addr.add_mid, Nat.zero_add] at this; exact this
theorem OwnB.cell' {B g cap L : Nat} {l : List UInt8} {w : World} (h : OwnB B (.slice (some ⟨g, 0, none⟩) l.length cap) l w) (_ : L = l.length) {j : Nat} {x : UInt8} (hj : l[j]? = some x) : w.cell? ⟨g, j, none⟩ = some (u8v x) := h.cell hj
theorem OwnB.takes {B g cap : Nat} {l : List UInt8} {w : World} (h : OwnB B (.slice (some ⟨g, 0, none⟩) l.length cap) l w) (i : Nat) : ∀ j u, ((l.take i).map u8v)[j]? = some u → w.cell? ((⟨g, 0, none⟩ : Addr).add j) = some u := by
  intro j u hu
  have hj : j < i := by have := (List.getElem?_eq_some_iff.1 hu).1; rw [List.length_map, List.length_take] at this; omega
  rw [List.getElem?_map, List.getElem?_take, if_pos hj] at hu
  exact World.ownsRow.cells h (g := g) rfl j u (by rw [List.getElem?_map]; exact hu)
theorem OwnB.drops {B g cap : Nat} {l : List UInt8} {w : World} (h : OwnB B (.slice (some ⟨g, 0, none⟩) l.length cap) l w) (i : Nat) : ∀ j u, ((l.drop i).map u8v)[j]? = some u → w.cell? ((⟨g, i, none⟩ : Addr).add j) = some u := by
  intro j u hu
  rw [List.getElem?_map, List.getElem?_drop] at hu
  have := World.ownsRow.cells h (g := g) rfl (i + j) u (by rw [List.getElem?_map]; exact hu)
  rw [Addr.add_mid] at this ⊢
  rw [Nat.zero_add] at this; exact this
theorem u8v_ones (l : List UInt8) : ∀ u ∈ l.map u8v, u.oneCell' = true := fun u hu => by obtain ⟨x, _, rfl⟩ := List.mem_map.1 hu; rfl
theorem wp_append_bytes {w : World} {o : Oper} {a : Act} {K : Act → World → Prop} {Q : Exit → Act → World → Prop} (s x : Operand) (ho : o.op = .call { callee := .builtin .append, args := #[s, x], argTypes := #[60, 60] })
    (B : Nat) (v : Value) (l : List UInt8) (hs : a.eval s = v) (hown : OwnB B v l w) (ad : Addr) (m c : Nat) (news : List UInt8) (hx : a.eval x = .slice (some ad) m c) (hl : news.length = m) (hnews : ∀ j u, (news.map u8v)[j]? = some u → w.cell? (ad.add j) = some u) (hmax : l.length + m ≤ 1000000) (hB : B ≤ w.heap.size)
    (h : ∀ v' w', Hid (OwnB B v' (l ++ news) w') → Hid (w.grownBy w' v.ownBlock) → K (a.put o.dst v') w') : o.wp Tryz.prog a w K Q := by
  obtain ⟨i0, hi, hz0, hz1, hz2⟩ := ginfo_parts infoByte
  refine wp_append_own w s x 60 ho B 5 i0 (.int .u8 0) 1 1 Tryz.underlying60 hi hz0 hz1 hz2 rfl (by decide) v l.length (l.map u8v) hs hown ad m c (news.map u8v) hx (by rw [List.length_map, hl, Nat.mul_one]) hnews (u8v_ones _) (by unfold maxLen; omega) (by omega) hB fun v' w' h2 h3 _ => h v' w' (Lib.hid ?_) (Lib.hid h3)
  unfold OwnB
  rw [List.length_append, hl, List.map_append]; exact h2
theorem wpList_append_bytes {w : World} {ops : Array Oper} {rest : List Oper} {o : Oper} {a : Act} {Q : Exit → Act → World → Prop} (hgd : o.guard = none) (s x : Operand) (ho : o.op = .call { callee := .builtin .append, args := #[s, x], argTypes := #[60, 60] })
    (B : Nat) (v : Value) (l : List UInt8) (hs : a.eval s = v) (hown : OwnB B v l w) (ad : Addr) (m c : Nat) (news : List UInt8) (hx : a.eval x = .slice (some ad) m c) (hl : news.length = m) (hnews : ∀ j u, (news.map u8v)[j]? = some u → w.cell? (ad.add j) = some u) (hmax : l.length + m ≤ 1000000) (hB : B ≤ w.heap.size)
    (h : ∀ v' w', Hid (OwnB B v' (l ++ news) w') → Hid (w.grownBy w' v.ownBlock) → wpList Tryz.prog ops Q rest (a.put o.dst v') w') : wpList Tryz.prog ops Q (o :: rest) a w :=
  wpList_plain hgd fun _ hK => wp_append_bytes s x ho B v l hs hown ad m c news hx hl hnews hmax hB fun v' w' h2 h3 => hK _ _ (h v' w' h2 h3)
theorem step_append_bytes {w : World} {ops : Array Oper} {o : Oper} {a : Act} {K : Act → World → Prop} {Q : Exit → Act → World → Prop} {E : Prop} (hgd : o.guard = none) (s x : Operand) (ho : o.op = .call { callee := .builtin .append, args := #[s, x], argTypes := #[60, 60] })
    (B : Nat) (v : Value) (l : List UInt8) (hs : a.eval s = v) (hown : OwnB B v l w) (ad : Addr) (m c : Nat) (news : List UInt8) (hx : a.eval x = .slice (some ad) m c) (hl : news.length = m) (hnews : ∀ j u, (news.map u8v)[j]? = some u → w.cell? (ad.add j) = some u) (hmax : l.length + m ≤ 1000000) (hB : B ≤ w.heap.size) (dst : Option Tmp) (hdst : o.dst = dst)
    (h : ∀ v' w', Hid (OwnB B v' (l ++ news) w') → Hid (w.grownBy w' v.ownBlock) → K (a.put dst v') w') : if Region.wanted o (yielded ops a.tmps) = true then Oper.wp Tryz.prog o a w K Q else E := by
  have hw : Region.wanted o (yielded ops a.tmps) = true := by simp [Region.wanted, hgd]
  rw [if_pos hw]
  subst hdst
  exact wp_append_bytes s x ho B v l hs hown ad m c news hx hl hnews hmax hB h
/-- A number in a block of its own. -/
theorem one_byte (w : World) (x : UInt8) : ∀ j u, (([x] : List UInt8).map u8v)[j]? = some u → (w.alloc (.cells #[u8v x] 5)).cell? ((⟨w.heap.size, 0, none⟩ : Addr).add j) = some u := by
  intro j u hu
  have h := heap_alloc_new w (.cells #[u8v x] 5)
  rw [Addr.add_mid, Nat.zero_add, cell_of_list (cs := [u8v x]) h]; exact hu
theorem grown_belowB {B : Nat} {v : Value} {l : List UInt8} {w0 w w' : World} (hb : Below B w0 w) (hB : B ≤ w.heap.size) (h : OwnB B v l w) (hg : w.grownBy w' v.ownBlock) : Below B w0 w' := hb.grown hg hB (fun k hk => (h.lt k hk).1)
end Go.Proofs.YteanbflbclmeeaaGreat

/- The walk of lent. -/
namespace Go.Proofs.YteanbflbclmeeaaGreat
open Go.RowKit

theorem lent_facts {v v2 : Value} {l : List UInt8} {w0 w1 w2 : World} {o : Obj} {len : Nat} (h1 : OwnB w0.heap.size v l w1) (hb : Below w0.heap.size w0 w1) (h2 : OwnB w0.heap.size v2 (l ++ [77]) w2) (hg : (w1.alloc o).grownBy w2 v.ownBlock) (hl : l.length = len) :
    ∃ g cap2, v2 = .slice (some ⟨g, 0, none⟩) (len + 1) cap2 ∧ len + 1 ≤ cap2 ∧ w0.heap.size ≤ g ∧ g < w2.heap.size ∧ w2.rangeAt g 0 (l.map u8v) ∧ Below w0.heap.size w0 w2 ∧ w2.cell? ⟨g, len, none⟩ = some (.int .u8 77) := by
  obtain ⟨g, cap2, hv, hc, hlo, hlt⟩ := h2.form (by simp)
  have hn : (l ++ [77]).length = len + 1 := by rw [List.length_append, hl]; rfl
  rw [hn] at hv hc
  refine ⟨g, cap2, hv, hc, hlo, hlt, fun j u hu => ?_, grown_belowB (hb.alloc hb.size o) (by have := hb.size; simp; omega) (h1.alloc o) hg, ?_⟩
  · rw [hv, ← hn] at h2
    have hj : j < l.length := by have := (List.getElem?_eq_some_iff.1 hu).1; rw [List.length_map] at this; exact this
    rw [List.getElem?_map, List.getElem?_eq_getElem hj] at hu
    have := h2.cell (j := j) (x := l[j]) (by rw [List.getElem?_append_left hj, List.getElem?_eq_getElem hj])
    rw [Nat.zero_add, this]; exact hu
  · rw [hv, ← hn] at h2
    have := h2.cell (j := len) (x := 77) (by rw [← hl, List.getElem?_append_right (Nat.le_refl _)]; simp)
    exact this
theorem one_77 (w : World) : ∀ j u, (([77] : List UInt8).map u8v)[j]? = some u → (w.alloc (.cells #[.int .u8 77] 5)).cell? ((⟨w.heap.size, 0, none⟩ : Addr).add j) = some u := by
  have h := one_byte w 77
  rw [show u8v 77 = Value.int .u8 77 from rfl] at h
  exact h
/-- The place of the answer. -/
structure Res0 (R : Nat) (w : World) : Prop where
  at_ : ResAt R 62 w
theorem Res0.below' {R : Nat} {w w' : World} (h : Res0 R w) (hb : Below w.heap.size w w') : Res0 R w' := ⟨h.at_.below hb h.at_.lt⟩
theorem lent_res {R : Nat} {w : World} (h : Res0 (R + 1) w) (v : Value) : (w.setCell ⟨R, 2, none⟩ v).heap[R + 1]? = some (.cells zeroRow.toArray 62 (0, 0)) := (heap_setCell_other _ _ _ _ (by show R + 1 ≠ R; omega)).trans h.at_
theorem lent_ones (r c : Int) (g n m : Nat) : ∀ v ∈ [Value.int .i64 r, .int .i64 c, .slice (some ⟨g, 0, none⟩) n m], v.oneCell' = true := fun v hv => by simp at hv; rcases hv with rfl | rfl | rfl <;> rfl
theorem lt_of_block {w w' : World} {g : Nat} (h : w'.heap[g]? = w.heap[g]?) (hl : g < w.heap.size) : g < w'.heap.size := by
  rw [Array.getElem?_eq_getElem hl] at h
  exact lt_of_heap h
end Go.Proofs.YteanbflbclmeeaaGreat

/- The walk of lent, of nothing; lent. -/
namespace Go.Proofs.YteanbflbclmeeaaGreat
open Go.RowKit

theorem wpList_nil_append {w : World} {ops : Array Oper} {rest : List Oper} {o : Oper} {a : Act} {Q : Exit → Act → World → Prop} (hgd : o.guard = none) (s x : Operand) (ho : o.op = .call { callee := .builtin .append, args := #[s, x], argTypes := #[60, 60] })
    (hs : a.eval s = .slice none 0 0) (ao : Option Addr) (cx : Nat) (hx : a.eval x = .slice ao 0 cx) (hrun : ∀ v : World, (Builtin.append_ #[60, 60] o.type #[.slice none 0 0, .slice ao 0 cx]).run Tryz.prog v = .ok (.slice none 0 0) v)
    (h : wpList Tryz.prog ops Q rest (a.put o.dst (.slice none 0 0)) w) : wpList Tryz.prog ops Q (o :: rest) a w := by
  refine wpList_plain hgd fun K hK' => ?_
  have hr := hrun w
  unfold Oper.wp
  simp [execOp, ho, resolve, invoke, builtin, hs, hx, hr, Result.andThen]
  exact hK' _ _ h
theorem nil_none (ty : TypeId) (v : World) : (Builtin.append_ #[60, 60] ty #[.slice none 0 0, .slice none 0 0]).run Tryz.prog v = .ok (.slice none 0 0) v := by
  obtain ⟨i0, hi, _, _, _⟩ := ginfo_parts infoByte
  exact run_append_owned_none (P := Tryz.prog) v v.heap.size 60 ty 5 i0 1 Tryz.underlying60 hi (.slice none 0 0) 0 [] (World.ownsRow_nil v _ _ _)
theorem nil_some (ty : TypeId) (ad : Addr) (c : Nat) (v : World) : (Builtin.append_ #[60, 60] ty #[.slice none 0 0, .slice (some ad) 0 c]).run Tryz.prog v = .ok (.slice none 0 0) v := by
  obtain ⟨i0, hi, _, _, _⟩ := ginfo_parts infoByte
  have hl := run_loadCells_list (P := Tryz.prog) v ad [] (fun j u hu => by simp at hu)
  simp only [List.length_nil] at hl
  simp [Builtin.append_, run_underlying Tryz.underlying60, sizeOf, typeInfo, hi, Builtin.lenOf, Builtin.firstCells, hl, Result.andThen]
theorem wpList_nil_appendT {w : World} {ops : Array Oper} {rest : List Oper} {o : Oper} {a : Act} {Q : Exit → Act → World → Prop} (hgd : o.guard = none) (s x : Operand) (ho : o.op = .call { callee := .builtin .append, args := #[s, x], argTypes := #[25, 25] })
    (hs : a.eval s = .slice none 0 0) (ao : Option Addr) (cx : Nat) (hx : a.eval x = .slice ao 0 cx) (hz : ao = none → cx = 0)
    (h : wpList Tryz.prog ops Q rest (a.put o.dst (.slice none 0 0)) w) : wpList Tryz.prog ops Q (o :: rest) a w := by
  refine wpList_plain hgd fun K hK' => ?_
  have hr : (Builtin.append_ #[25, 25] o.type #[.slice none 0 0, .slice ao 0 cx]).run Tryz.prog w = .ok (.slice none 0 0) w := by
    obtain ⟨i0, hi, _, _, _⟩ := ginfo_parts infoStr
    cases ao with
    | none =>
      obtain rfl := hz rfl
      exact run_append_owned_none (P := Tryz.prog) w w.heap.size 25 o.type 9 i0 1 Tryz.underlying25 hi (.slice none 0 0) 0 [] (World.ownsRow_nil w _ _ _)
    | some ad =>
      have hl := run_loadCells_list (P := Tryz.prog) w ad [] (fun j u hu => by simp at hu)
      simp only [List.length_nil] at hl
      simp [Builtin.append_, run_underlying Tryz.underlying25, sizeOf, typeInfo, hi, Builtin.lenOf, Builtin.firstCells, hl, Result.andThen]
  unfold Oper.wp
  simp [execOp, ho, resolve, invoke, builtin, hs, hx, hr, Result.andThen]
  exact hK' _ _ h
end Go.Proofs.YteanbflbclmeeaaGreat
