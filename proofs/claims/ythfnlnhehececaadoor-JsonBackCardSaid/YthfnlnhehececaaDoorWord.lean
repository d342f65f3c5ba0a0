/- Words and worlds: small laws on UInt32, on the model's bit operations, and on blocks that are known whole. No program is imported here. -/
import Derived.WalkKit
import Derived.WalkSpells
import Derived.WalkLawsBesides
import Derived.Lib.Hide
import Derived.Deep.MidRow
import Derived.Laws.CopyOwn
import Derived.Deep.Draws
namespace Go.Proofs.YthfnlnhehececaaDoor
open Go.RowKit

def u32v (x : UInt32) : Value := .int .u32 (x.toNat : Int)
def u8v (x : UInt8) : Value := .int .u8 (x.toNat : Int)

theorem ret_int {k : IntKind} {a b : Int} (h : a = b) : Ending.returned (.int k a) = .returned (.int k b) := by rw [h]
theorem int_eq_u32v {a : Int} {x : UInt32} (h : a = (x.toNat : Int)) : Value.int .u32 a = u32v x := by rw [h]; rfl
theorem int_eq_u8v {a : Int} {x : UInt8} (h : a = (x.toNat : Int)) : Value.int .u8 a = u8v x := by rw [h]; rfl

theorem u32_lt (x : UInt32) : x.toNat < 4294967296 := x.toNat_lt
theorem u8_lt (x : UInt8) : x.toNat < 256 := x.toNat_lt

theorem fold_add (a b : UInt32) : IntKind.u32.wrap ((a.toNat : Int) + (b.toNat : Int)) = ((a + b).toNat : Int) := by
  rw [IntKind.wrap_u32', UInt32.toNat_add]; omega
theorem fold_xor (a b : UInt32) : bits .xor .u32 (a.toNat : Int) (b.toNat : Int) = ((a ^^^ b).toNat : Int) := by
  rw [u32_xor_nat _ _ (u32_lt a) (u32_lt b), UInt32.toNat_xor]
theorem fold_and (a b : UInt32) : bits .and .u32 (a.toNat : Int) (b.toNat : Int) = ((a &&& b).toNat : Int) := by
  rw [u32_and_nat _ _ (u32_lt a) (u32_lt b), UInt32.toNat_and]
theorem fold_or (a b : UInt32) : bits .or .u32 (a.toNat : Int) (b.toNat : Int) = ((a ||| b).toNat : Int) := by
  rw [u32_or_nat _ _ (u32_lt a) (u32_lt b), UInt32.toNat_or]
theorem fold_not (a : UInt32) : bits .xor .u32 4294967295 (a.toNat : Int) = ((~~~a).toNat : Int) := by
  have h := fold_xor 4294967295 a
  rw [show ((4294967295 : UInt32).toNat : Int) = 4294967295 from rfl] at h
  rw [h]
  congr 2
theorem fold_ofNat (n : Nat) : ((n : Int) % 4294967296) = ((UInt32.ofNat n).toNat : Int) := by
  rw [UInt32.toNat_ofNat']; omega

/-! Blocks that are known whole. -/
theorem cell_of_list {w : World} {g : Nat} {cs : List Value} {t : TypeId} {fr : Nat × Nat} (h : w.heap[g]? = some (.cells cs.toArray t fr)) (j : Nat) : w.cell? ⟨g, j, none⟩ = cs[j]? := by
  rw [cell_of_row w g j _ t fr h]; simp
theorem free_of_list {w : World} {g : Nat} {cs : List Value} {t : TypeId} (h : w.heap[g]? = some (.cells cs.toArray t (0, 0))) (j : Nat) : w.frozen? ⟨g, j, none⟩ = false :=
  frozen_of_row w g j _ t h
theorem set_list {w : World} {g : Nat} {cs : List Value} {t : TypeId} (h : w.heap[g]? = some (.cells cs.toArray t (0, 0))) (i : Nat) (v : Value) :
    (w.setCell ⟨g, i, none⟩ v).heap[g]? = some (.cells (cs.set i v).toArray t (0, 0)) := by
  rw [heap_setCell_same w g i _ t v h]; simp
theorem lt_of_heap {w : World} {g : Nat} {o : Obj} (h : w.heap[g]? = some o) : g < w.heap.size := (Array.getElem?_eq_some_iff.1 h).1

/-- The list with 'vs' from place 'o' on. -/
def laid (cs : List Value) : Nat → List Value → List Value
  | _, [] => cs
  | o, v :: r => laid (cs.set o v) (o + 1) r
theorem length_laid (vs : List Value) : ∀ (o : Nat) (cs : List Value), (laid cs o vs).length = cs.length := by
  induction vs with
  | nil => intro o cs; rfl
  | cons v r ih => intro o cs; rw [laid, ih, List.length_set]
theorem laid_get_out (vs : List Value) : ∀ (o : Nat) (cs : List Value) (j : Nat), (j < o ∨ o + vs.length ≤ j) → (laid cs o vs)[j]? = cs[j]? := by
  induction vs with
  | nil => intro o cs j _; rfl
  | cons v r ih =>
    intro o cs j h
    rw [laid, ih _ _ _ (by simp at h; omega), List.getElem?_set_ne (by simp at h; omega)]
theorem laid_get_in (vs : List Value) : ∀ (o : Nat) (cs : List Value) (j : Nat), o + vs.length ≤ cs.length → j < vs.length → (laid cs o vs)[o + j]? = vs[j]? := by
  induction vs with
  | nil => intro o cs j _ h; simp at h
  | cons v r ih =>
    intro o cs j hl h
    simp only [List.length_cons] at hl h
    cases j with
    | zero => rw [laid, laid_get_out _ _ _ _ (by omega), Nat.add_zero, List.getElem?_set_self (by omega)]; rfl
    | succ j =>
      have := ih (o + 1) (cs.set o v) j (by simp; omega) (by omega)
      rw [laid, show o + (j + 1) = o + 1 + j from by omega, this]; rfl
theorem laid_whole (cs vs : List Value) (h : vs.length = cs.length) : laid cs 0 vs = vs := by
  apply List.ext_getElem?
  intro j
  by_cases hj : j < vs.length
  · have := laid_get_in vs 0 cs j (by omega) hj
    simpa using this
  · rw [List.getElem?_eq_none (by rw [length_laid]; omega), List.getElem?_eq_none (by omega)]
theorem setCells_list {g : Nat} {t : TypeId} (vs : List Value) : ∀ (o : Nat) (cs : List Value) (w : World), w.heap[g]? = some (.cells cs.toArray t (0, 0)) →
    (w.setCells g o vs).heap[g]? = some (.cells (laid cs o vs).toArray t (0, 0)) := by
  induction vs with
  | nil => intro o cs w h; exact h
  | cons v r ih => intro o cs w h; exact ih (o + 1) _ _ (set_list h o v)
theorem setCells_other {g k : Nat} (hk : k ≠ g) (vs : List Value) : ∀ (o : Nat) (w : World), (w.setCells g o vs).heap[k]? = w.heap[k]? := by
  induction vs with
  | nil => intro o w; rfl
  | cons v r ih => intro o w; rw [World.setCells, ih, heap_setCell_other _ _ _ _ hk]
theorem setCells_size {g : Nat} (vs : List Value) : ∀ (o : Nat) (w : World), (w.setCells g o vs).heap.size = w.heap.size := by
  induction vs with
  | nil => intro o w; rfl
  | cons v r ih => intro o w; rw [World.setCells, ih]; simp [World.setCell]
theorem range_of_list {w : World} {g : Nat} {cs : List Value} {t : TypeId} {fr : Nat × Nat} (h : w.heap[g]? = some (.cells cs.toArray t fr)) : w.rangeAt g 0 cs := fun j v hv => by
  rw [cell_of_list h]; simpa using hv
theorem there_of_list {w : World} {g : Nat} {cs : List Value} {t : TypeId} {o n : Nat} (h : w.heap[g]? = some (.cells cs.toArray t (0, 0))) (hn : o + n ≤ cs.length) : w.there g o n := fun j hj =>
  ⟨by rw [cell_of_list h, List.getElem?_eq_getElem (by omega)]; rfl, free_of_list h _⟩

/-- From w to w': of the blocks below B only those of 'ws' may have changed. -/
structure Kept (B : Nat) (ws : List Nat) (w w' : World) : Prop where
  os : w'.os = w.os
  tape : w'.tape = w.tape
  output : w'.output = w.output
  size : w.heap.size ≤ w'.heap.size
  block : ∀ k, k < B → k ∉ ws → w'.heap[k]? = w.heap[k]?
theorem Kept.refl (B : Nat) (ws : List Nat) (w : World) : Kept B ws w w := ⟨rfl, rfl, rfl, Nat.le_refl _, fun _ _ _ => rfl⟩
theorem Kept.trans {B : Nat} {ws : List Nat} {a b c : World} (h : Kept B ws a b) (k : Kept B ws b c) : Kept B ws a c :=
  ⟨k.os.trans h.os, k.tape.trans h.tape, k.output.trans h.output, Nat.le_trans h.size k.size, fun i hi hn => (k.block i hi hn).trans (h.block i hi hn)⟩
theorem Kept.mono {B B' : Nat} {ws ws' : List Nat} {a b : World} (h : Kept B' ws' a b) (hB : B ≤ B') (hw : ∀ k, k < B → k ∈ ws' → k ∈ ws) : Kept B ws a b :=
  ⟨h.os, h.tape, h.output, h.size, fun i hi hn => h.block i (by omega) (fun hm => hn (hw i hi hm))⟩
theorem Kept.drew {B : Nat} {ws : List Nat} {a w : World} (h : Kept B ws a w) : Kept B ws a w.drew := ⟨h.os, h.tape, h.output, h.size, h.block⟩
theorem Kept.alloc {B : Nat} {ws : List Nat} {a w : World} (h : Kept B ws a w) (hB : B ≤ w.heap.size) (o : Obj) : Kept B ws a (w.alloc o) := by
  have := (Below.refl B w).alloc hB o
  exact ⟨this.os.trans h.os, this.tape.trans h.tape, this.output.trans h.output, Nat.le_trans h.size this.size, fun i hi hn => (this.block i hi).trans (h.block i hi hn)⟩
theorem Kept.setCell {B : Nat} {ws : List Nat} {a w : World} (h : Kept B ws a w) {p : Addr} (hp : p.block ∈ ws ∨ B ≤ p.block) (v : Value) : Kept B ws a (w.setCell p v) :=
  ⟨h.os, h.tape, h.output, by rw [World.setCell]; simpa using h.size, fun i hi hn => by
    rw [heap_setCell_other _ _ _ _ (fun e => by rcases hp with hp | hp; · exact hn (e ▸ hp)
                                                · omega)]
    exact h.block i hi hn⟩
theorem Kept.setCells {B : Nat} {ws : List Nat} {g : Nat} (hp : g ∈ ws ∨ B ≤ g) (vs : List Value) : ∀ {a w : World} (_ : Kept B ws a w) (o : Nat), Kept B ws a (w.setCells g o vs) := by
  induction vs with
  | nil => intro a w h o; exact h
  | cons v r ih => intro a w h o; exact ih (h.setCell (p := ⟨g, o, none⟩) hp v) (o + 1)
theorem Kept.of_below {B : Nat} {ws : List Nat} {a b : World} (h : Below B a b) : Kept B ws a b := ⟨h.os, h.tape, h.output, h.size, fun i hi _ => h.block i hi⟩
theorem Kept.below {B : Nat} {ws : List Nat} {a b : World} (h : Kept B ws a b) (hw : ∀ k ∈ ws, B ≤ k) : Below B a b :=
  ⟨h.os, h.tape, h.output, h.size, fun i hi => h.block i hi (fun hm => by have := hw i hm; omega)⟩
theorem Kept.cell {B : Nat} {ws : List Nat} {a b : World} (h : Kept B ws a b) {p : Addr} (hp : p.block < B) (hn : p.block ∉ ws) : b.cell? p = a.cell? p := World.cell?_of_block (w := a) (h.block p.block hp hn)
theorem Kept.heap {B : Nat} {ws : List Nat} {a b : World} (h : Kept B ws a b) {g : Nat} {o : Obj} (hg : a.heap[g]? = some o) (hB : g < B) (hn : g ∉ ws) : b.heap[g]? = some o := (h.block g hB hn).trans hg
theorem below_drewN {B : Nat} {a w : World} (h : Below B a w) (n : Nat) : Below B a (w.drewN n) := ⟨h.os, h.tape, h.output, h.size, h.block⟩
theorem below_setCells {B : Nat} {a w : World} (h : Below B a w) {g : Nat} (hg : B ≤ g) (o : Nat) (vs : List Value) : Below B a (w.setCells g o vs) :=
  (Kept.setCells (ws := []) (Or.inr hg) vs (Kept.of_below h) o).below (by simp)

/-- The result that lies in a cell's place: the cells. -/
theorem results_mid {P : Program} {fn : Func} {p : Tmp} {ty : TypeId} (h : fn.results = #[.cell p ty]) (tmps : Array Value) (w : World) (g o : Nat) (cs : List Value) (d : TypeDesc)
    (hp : tmps.getD p undef = .pointer (some ⟨g, o, none⟩)) (hc : w.rangeAt g o cs)
    (hu : P.underlying ty = some d) (hd : d.isRow = true) (hi : (P.info? ty).map (·.size) = some cs.length) :
    (results fn tmps).run P w = .ok (.agg cs.toArray) w := by
  have hp' : tmps[p]?.getD undef = .pointer (some ⟨g, o, none⟩) := by simpa using hp
  simp [results, h, hp', asAddr, run_loadVar_mid w g o ty cs d hc hu hd hi]
theorem u32v_one (ws : List UInt32) : (ws.map u32v).toArray.all (·.oneCell') = true :=
  all_oneCell_toArray fun v hv => by obtain ⟨x, _, rfl⟩ := List.mem_map.1 hv; rfl
theorem u8v_one (ws : List UInt8) : (ws.map u8v).toArray.all (·.oneCell') = true :=
  all_oneCell_toArray fun v hv => by obtain ⟨x, _, rfl⟩ := List.mem_map.1 hv; rfl
theorem getD_cell {w : World} {g : Nat} {ws : List UInt32} {T : TypeId} {n i : Nat} (hn : ws.length = n) (hi : i < n) (hW : w.heap[g]? = some (.cells (ws.map u32v).toArray T (0, 0))) : w.cell? ⟨g, i, none⟩ = some (u32v (ws.getD i 0)) := by
  rw [cell_of_list hW, List.getElem?_map, List.getD, List.getElem?_eq_getElem (by omega)]; rfl

/-- An operation whose run is known. -/
theorem wpList_run {P : Program} {w : World} {ops : Array Oper} {rest : List Oper} {o : Oper} {a : Act} {Q : Exit → Act → World → Prop} (hgd : o.guard = none) (v : Value) (w' : World)
    (hrun : (execOp a.eval o).run P w = .ok (.value v) w') (h : wpList P ops Q rest (a.put o.dst v) w') : wpList P ops Q (o :: rest) a w := by
  refine wpList_plain hgd fun K hK => ?_
  unfold Oper.wp
  rw [hrun]
  exact hK _ _ h
theorem wpList_alloc {P : Program} {w : World} {ops : Array Oper} {rest : List Oper} {o : Oper} {a : Act} {Q : Exit → Act → World → Prop} (hgd : o.guard = none) (T : TypeId) (ho : o.op = .alloc T) (zs : List Value)
    (hz : ∀ w : World, (Instr.alloc T true (.tuple #[])).run P w = .ok (.pointer (some ⟨w.heap.size, 0, none⟩)) (w.alloc (.cells zs.toArray T)))
    (h : wpList P ops Q rest (a.put o.dst (.pointer (some ⟨w.heap.size, 0, none⟩))) (w.alloc (.cells zs.toArray T))) : wpList P ops Q (o :: rest) a w := by
  refine wpList_run hgd _ _ ?_ h
  unfold execOp
  simp only [ho, Sem.run_bind, hz, Result.andThen_ok]
  rfl
theorem wpList_build {P : Program} {w : World} {ops : Array Oper} {rest : List Oper} {o : Oper} {a : Act} {Q : Exit → Act → World → Prop} (hgd : o.guard = none) (T : TypeId) (parts : Array (Nat × Operand)) (ho : o.op = .build T parts) (cs : List Value)
    (hz : (Instr.build T (parts.map fun (i, x) => (i, a.eval x))).run P w = .ok (.agg cs.toArray) w)
    (h : wpList P ops Q rest (a.put o.dst (.agg cs.toArray)) w) : wpList P ops Q (o :: rest) a w := by
  refine wpList_run hgd _ _ ?_ h
  unfold execOp
  simp only [ho, Sem.run_bind, hz, Result.andThen_ok]
  rfl
theorem run_index_agg {P : Program} (w : World) (T elem n : TypeId) (cs : List Value) (k : Nat) (v : Value) (d : TypeDesc) (hu : P.underlying T = some (.array n elem)) (hk : k < n) (hsz : (P.info? elem).map (·.size) = some 1)
    (hd : P.underlying elem = some d) (hdn : d.isRow = false) (hv : cs[k]? = some v) : (Instr.index T (.agg cs.toArray) (.int .i64 k)).run P w = .ok v w := by
  cases hq : P.info? elem with
  | none => simp [hq] at hsz
  | some i =>
    have hi : i.size = 1 := by simpa [hq] using hsz
    have hagg : (isAgg elem).run P w = .ok false w := by
      unfold isAgg
      rw [Sem.run_bind, run_underlying hd w]
      cases d <;> simp_all
    simp [Instr.index, asIntOf, Sem.run_bind, run_underlying hu, sizeOf, typeInfo, hq, hi, part, hagg, hv]
    omega
theorem wpList_index_agg {P : Program} {w : World} {ops : Array Oper} {rest : List Oper} {o : Oper} {a : Act} {Q : Exit → Act → World → Prop} (hgd : o.guard = none) (T : TypeId) (x y : Operand) (ho : o.op = .index T x y)
    (elem n : TypeId) (cs : List Value) (k : Nat) (v : Value) (d : TypeDesc) (hx : a.eval x = .agg cs.toArray) (hy : a.eval y = .int .i64 k) (hu : P.underlying T = some (.array n elem)) (hk : k < n) (hsz : (P.info? elem).map (·.size) = some 1)
    (hd : P.underlying elem = some d) (hdn : d.isRow = false) (hv : cs[k]? = some v)
    (h : wpList P ops Q rest (a.put o.dst v) w) : wpList P ops Q (o :: rest) a w := by
  refine wpList_run hgd _ _ ?_ h
  unfold execOp
  simp only [ho, hx, hy, Sem.run_bind, run_index_agg w T elem n cs k v d hu hk hsz hd hdn hv, Result.andThen_ok]
  rfl
theorem laid_snoc (vs : List Value) (v : Value) : ∀ (cs : List Value) (o : Nat), laid cs o (vs ++ [v]) = (laid cs o vs).set (o + vs.length) v := by
  induction vs with
  | nil => intro cs o; rfl
  | cons u r ih => intro cs o; simp only [List.cons_append, laid, ih, List.length_cons]; congr 1; omega
theorem wpList_store_new {P : Program} {w : World} {ops : Array Oper} {rest : List Oper} {op : Oper} {a : Act} {Q : Exit → Act → World → Prop} (hgd : op.guard = none) (ty : TypeId) (x y : Operand) (ho : op.op = .store ty x y)
    (b : Nat) (cells olds : List Value) (t : TypeId) (hx : a.eval x = .pointer (some ⟨b, 0, none⟩)) (hy : a.eval y = .agg cells.toArray)
    (hb : w.heap[b]? = some (.cells olds.toArray t (0, 0))) (hn : cells.length = olds.length) (hi : (P.info? ty).map (·.size) = some cells.length) (h1 : ∀ v ∈ cells, v.oneCell' = true)
    (h : wpList P ops Q rest (a.put op.dst undef) (w.setCells b 0 cells)) : wpList P ops Q (op :: rest) a w :=
  wpList_store_mid hgd ty x y ho b 0 cells.toArray hx hy (there_of_list hb (by simp [hn])) (by simpa using hi) (all_oneCell_toArray h1) h
theorem u32_ones (ws : List UInt32) : ∀ v ∈ ws.map u32v, v.oneCell' = true := fun v hv => by obtain ⟨x, _, rfl⟩ := List.mem_map.1 hv; rfl

/-! 'copy' into cells that are there. -/
theorem size_toList (s : ByteArray) : s.data.toList.length = s.size := Array.length_toList
/-- The first n bytes of a string, as cells. -/
def strCells (s : ByteArray) (n : Nat) : List Value := (s.data.toList.take n).map u8v
theorem length_strCells (s : ByteArray) (n : Nat) (h : n ≤ s.size) : (strCells s n).length = n := by
  rw [strCells, List.length_map, List.length_take, size_toList]; omega
theorem run_copy_str {P : Program} (w : World) (dT sT ty elem : TypeId) (b o dLen dCap : Nat) (s : ByteArray)
    (hu : P.underlying dT = some (.slice elem)) (hz : (P.info? elem).map (·.size) = some 1) (ht : w.there b o (Nat.min s.size dLen)) :
    (Builtin.copy_ #[dT, sT] ty #[.slice (some ⟨b, o, none⟩) dLen dCap, .string s]).run P w = .ok (goInt (Nat.min s.size dLen)) (w.setCells b o (strCells s (Nat.min s.size dLen))) := by
  have hl := length_strCells s (Nat.min s.size dLen) (Nat.min_le_left _ _)
  have hst := run_storeCells_cells (P := P) b o (strCells s (Nat.min s.size dLen)) 0 w
    (by rw [hl]; intro j hj; simpa using (ht j hj).1) (by rw [hl]; intro j hj; simpa using (ht j hj).2)
    (by intro v hv; obtain ⟨x, _, rfl⟩ := List.mem_map.1 hv; rfl)
  cases hq : P.info? elem with
  | none => simp [hq] at hz
  | some i =>
    have he : List.take (Nat.min s.size dLen) (List.map (fun x => Value.int IntKind.u8 (x.toNat : Int)) s.data.toList) = strCells s (Nat.min s.size dLen) := by
      rw [strCells, List.map_take]; rfl
    simp only [Nat.add_zero] at hst
    simp [Builtin.copy_, run_underlying hu, Builtin.lenOf, Builtin.firstCells, sizeOf, typeInfo, hq]
    rw [he, hst]
    rfl
theorem wpList_copy_str {P : Program} {w : World} {ops : Array Oper} {rest : List Oper} {o : Oper} {a : Act} {Q : Exit → Act → World → Prop} (hgd : o.guard = none) (d s : Operand) (dT sT : TypeId)
    (ho : o.op = .call { callee := .builtin .copy, args := #[d, s], argTypes := #[dT, sT] }) (elem : TypeId) (hu : P.underlying dT = some (.slice elem)) (hsz : (P.info? elem).map (·.size) = some 1)
    (b off dLen dCap : Nat) (t : ByteArray) (hd : a.eval d = .slice (some ⟨b, off, none⟩) dLen dCap) (hs : a.eval s = .string t) (ht : w.there b off (Nat.min t.size dLen))
    (h : wpList P ops Q rest (a.put o.dst (goInt (Nat.min t.size dLen))) (w.setCells b off (strCells t (Nat.min t.size dLen)))) : wpList P ops Q (o :: rest) a w := by
  refine wpList_plain hgd fun K hK => ?_
  have hrun := run_copy_str (P := P) w dT sT o.type elem b off dLen dCap t hu hsz ht
  unfold Oper.wp
  simp [execOp, ho, resolve, invoke, builtin, hd, hs, hrun, Result.andThen]
  exact hK _ _ h
theorem wpList_copy_cells {P : Program} {w : World} {ops : Array Oper} {rest : List Oper} {o : Oper} {a : Act} {Q : Exit → Act → World → Prop} (hgd : o.guard = none) (d s : Operand) (dT sT : TypeId)
    (ho : o.op = .call { callee := .builtin .copy, args := #[d, s], argTypes := #[dT, sT] }) (elem : TypeId) (hu : P.underlying dT = some (.slice elem)) (hsz : (P.info? elem).map (·.size) = some 1)
    (b off dLen dCap c oc sLen sCap : Nat) (hd : a.eval d = .slice (some ⟨b, off, none⟩) dLen dCap) (hs : a.eval s = .slice (some ⟨c, oc, none⟩) sLen sCap)
    (cs : List Value) (hn : cs.length = Nat.min sLen dLen) (hr : w.rangeAt c oc cs) (ht : w.there b off cs.length) (h1 : ∀ v ∈ cs, v.oneCell' = true)
    (h : wpList P ops Q rest (a.put o.dst (goInt cs.length)) (w.setCells b off cs)) : wpList P ops Q (o :: rest) a w := by
  refine wpList_plain hgd fun K hK => ?_
  have hrun := run_copy_cells (P := P) w dT sT o.type elem b off dLen dCap ⟨c, oc, none⟩ sLen sCap cs hu hsz hn (fun j v hv => by rw [Addr.add_mid]; exact hr j v hv) (fun j hj => (ht j hj).1) (fun j hj => (ht j hj).2) h1
  unfold Oper.wp
  simp [execOp, ho, resolve, invoke, builtin, hd, hs, hrun, Result.andThen]
  exact hK _ _ h
theorem step_copy_cells {P : Program} {ops : Array Oper} {o : Oper} {a : Act} {w : World} {K : Act → World → Prop} {Q : Exit → Act → World → Prop} {E : Prop} (hgd : o.guard = none) (d s : Operand) (dT sT : TypeId)
    (ho : o.op = .call { callee := .builtin .copy, args := #[d, s], argTypes := #[dT, sT] }) (elem : TypeId) (hu : P.underlying dT = some (.slice elem)) (hsz : (P.info? elem).map (·.size) = some 1)
    (b off dLen dCap c oc sLen sCap : Nat) (hd : a.eval d = .slice (some ⟨b, off, none⟩) dLen dCap) (hs : a.eval s = .slice (some ⟨c, oc, none⟩) sLen sCap)
    (cs : List Value) (hn : cs.length = Nat.min sLen dLen) (hr : w.rangeAt c oc cs) (ht : w.there b off cs.length) (h1 : ∀ v ∈ cs, v.oneCell' = true)
    (h : K (a.put o.dst (goInt cs.length)) (w.setCells b off cs)) :
    if Region.wanted o (yielded ops a.tmps) = true then Oper.wp P o a w K Q else E := by
  have hw : Region.wanted o (yielded ops a.tmps) = true := by simp [Region.wanted, hgd]
  rw [if_pos hw]
  have hrun := run_copy_cells (P := P) w dT sT o.type elem b off dLen dCap ⟨c, oc, none⟩ sLen sCap cs hu hsz hn (fun j v hv => by rw [Addr.add_mid]; exact hr j v hv) (fun j hj => (ht j hj).1) (fun j hj => (ht j hj).2) h1
  unfold Oper.wp
  simp [execOp, ho, resolve, invoke, builtin, hd, hs, hrun, Result.andThen]
  exact h
end Go.Proofs.YthfnlnhehececaaDoor
