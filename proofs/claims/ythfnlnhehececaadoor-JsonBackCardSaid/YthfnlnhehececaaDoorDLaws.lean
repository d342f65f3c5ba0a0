/- Laws at operations: what was stored or copied into a row, the world behind it a variable; a row loaded in a region that draws; append in such a region. No program is imported here. -/
import Derived.Test.YthfnlnhehececaaDoorWord2
import Derived.Laws.AppendOwn
import Derived.Deep.RegionLaw
import Derived.Great.BuildSlice
namespace Go.Proofs.YthfnlnhehececaaDoor
open Go.RowKit

theorem laid_mid' (vs : List Value) : ∀ (A B C : List Value), B.length = vs.length → laid (A ++ (B ++ C)) A.length vs = A ++ (vs ++ C) := by
  induction vs with
  | nil => intro A B C h; obtain rfl : B = [] := List.eq_nil_of_length_eq_zero (by simpa using h); rfl
  | cons v r ih =>
    intro A B C h
    cases B with
    | nil => simp at h
    | cons b B =>
      rw [laid, show (A ++ (b :: B ++ C)).set A.length v = (A ++ [v]) ++ (B ++ C) from by simp]
      have := ih (A ++ [v]) B C (by simpa using h)
      rw [List.length_append, List.length_singleton] at this
      rw [this]; simp
theorem kept_setCells (w : World) (g o : Nat) (vs : List Value) : Kept w.heap.size [g] w (w.setCells g o vs) := Kept.setCells (Or.inl (by simp)) vs (Kept.refl _ _ _) o
/-- A whole row stored into a block that is known. -/
theorem wpList_store_whole {P : Program} {ops : Array Oper} {rest : List Oper} {op : Oper} {a : Act} {w : World} {Q : Exit → Act → World → Prop} (hgd : op.guard = none) (ty : TypeId) (x y : Operand) (ho : op.op = .store ty x y)
    (b : Nat) (cells old : List Value) (t : TypeId) (hx : a.eval x = .pointer (some ⟨b, 0, none⟩)) (hy : a.eval y = .agg cells.toArray)
    (hg : w.heap[b]? = some (.cells old.toArray t (0, 0))) (hl : old.length = cells.length) (hi : (P.info? ty).map (·.size) = some cells.length) (h1 : ∀ v ∈ cells, v.oneCell' = true)
    (h : ∀ w', Hid (w'.heap[b]? = some (.cells cells.toArray t (0, 0))) → Hid (Kept w.heap.size [b] w w') → Hid (w'.heap.size = w.heap.size) → wpList P ops Q rest (a.put op.dst undef) w') : wpList P ops Q (op :: rest) a w := by
  refine wpList_store_mid hgd ty x y ho b 0 cells.toArray hx hy (there_of_list hg (by simp [hl])) (by simpa using hi) (all_oneCell_toArray h1) ?_
  refine h _ (Lib.hid ?_) (Lib.hid (kept_setCells _ _ _ _)) (Lib.hid (setCells_size _ _ _))
  have := setCells_list cells 0 old w hg
  rw [laid_whole old cells hl.symm] at this
  exact this
/-- A text copied into the middle of a block that is known. -/
theorem wpList_copy_text {P : Program} {w : World} {ops : Array Oper} {rest : List Oper} {o : Oper} {a : Act} {Q : Exit → Act → World → Prop} (hgd : o.guard = none) (d s : Operand) (dT sT : TypeId)
    (ho : o.op = .call { callee := .builtin .copy, args := #[d, s], argTypes := #[dT, sT] }) (elem : TypeId) (hu : P.underlying dT = some (.slice elem)) (hsz : (P.info? elem).map (·.size) = some 1)
    (b off n : Nat) (t : ByteArray) (hd : a.eval d = .slice (some ⟨b, off, none⟩) n n) (hs : a.eval s = .string t) (ht : t.size = n)
    (A B C : List Value) (T : TypeId) (hg : w.heap[b]? = some (.cells (A ++ (B ++ C)).toArray T (0, 0))) (hA : A.length = off) (hB : B.length = n)
    (h : ∀ w', Hid (w'.heap[b]? = some (.cells (A ++ (t.data.toList.map u8v ++ C)).toArray T (0, 0))) → Hid (Kept w.heap.size [b] w w') → Hid (w'.heap.size = w.heap.size) → wpList P ops Q rest (a.put o.dst (goInt n)) w') : wpList P ops Q (o :: rest) a w := by
  have hm : Nat.min t.size n = n := by rw [ht]; exact Nat.min_self n
  refine wpList_copy_str hgd d s dT sT ho elem hu hsz b off n n t hd hs (by rw [hm]; exact there_of_list hg (by simp; omega)) ?_
  rw [hm]
  have he : strCells t n = t.data.toList.map u8v := by rw [strCells, List.take_of_length_le (by rw [size_toList]; omega)]
  rw [he]
  subst hA
  refine h _ (Lib.hid ?_) (Lib.hid (kept_setCells _ _ _ _)) (Lib.hid (setCells_size _ _ _))
  have := setCells_list (t.data.toList.map u8v) A.length _ w hg
  rw [laid_mid' _ _ _ _ (by rw [List.length_map, size_toList, ht, hB])] at this
  exact this

/-! A row that is loaded in a region. -/
/-- The cells of what is of type T behind a pointer. -/
def midOf (P : Program) (T : TypeId) (w : World) (v : Value) : List Value :=
  match v with
  | .pointer (some a) => (match w.heap[a.block]? with | some (.cells c _ _) => (c.toList.drop a.off).take (((P.info? T).map (·.size)).getD 0) | _ => [])
  | _ => []
def RowyAt (P : Program) (T : TypeId) (w : World) (v : Value) : Prop :=
  ∃ b o cs d, v = .pointer (some ⟨b, o, none⟩) ∧ w.rangeAt b o cs ∧ midOf P T w v = cs ∧ P.underlying T = some d ∧ d.isRow = true ∧ (P.info? T).map (·.size) = some cs.length
theorem run_load_part {P : Program} {T : TypeId} {w : World} {ρ : Operand → Value} {dst : Option Tmp} {x : Operand} {ty : TypeId} {pos : String} {after : Array Edge} {guard : Option (Nat × Bool)} (h : RowyAt P T w (ρ x)) :
    Sem.run P (execOp ρ { dst := dst, op := .load T x, type := ty, pos := pos, after := after, guard := guard }) w = .ok (.value (.agg (midOf P T w (ρ x)).toArray)) w := by
  obtain ⟨b, o, cs, d, hv, hb, hm, hu, hd, hi⟩ := h
  unfold execOp
  rw [hm]
  simp only [hv, Sem.run_bind, run_loadAt_mid w b o T cs d hb hu hd hi, Result.andThen_ok]
  rfl
theorem midOf_mk {P : Program} {T : TypeId} {w : World} {b o : Nat} {A B C : List Value} {t : TypeId} {fr : Nat × Nat} (h : w.heap[b]? = some (.cells (A ++ (B ++ C)).toArray t fr)) (hA : A.length = o) (hi : (P.info? T).map (·.size) = some B.length) :
    midOf P T w (.pointer (some ⟨b, o, none⟩)) = B := by
  simp only [midOf, h, hi, Option.getD_some]
  rw [show o = A.length from hA.symm, List.drop_left, List.take_left]
theorem range_part {w : World} {b o : Nat} {A B C : List Value} {t : TypeId} {fr : Nat × Nat} (h : w.heap[b]? = some (.cells (A ++ (B ++ C)).toArray t fr)) (hA : A.length = o) : w.rangeAt b o B := by
  intro j v hv
  have hj : j < B.length := by
    rcases Nat.lt_or_ge j B.length with h | h
    · exact h
    · rw [List.getElem?_eq_none h] at hv; cases hv
  rw [cell_of_list h, List.getElem?_append_right (by omega), List.getElem?_append_left (by omega), show o + j - A.length = j from by omega]; exact hv
theorem rowyAt_mk {P : Program} {T : TypeId} {w : World} {b o : Nat} {A B C : List Value} {t : TypeId} {fr : Nat × Nat} {d : TypeDesc} (h : w.heap[b]? = some (.cells (A ++ (B ++ C)).toArray t fr)) (hA : A.length = o) (hi : (P.info? T).map (·.size) = some B.length)
    (hu : P.underlying T = some d) (hd : d.isRow = true) : RowyAt P T w (.pointer (some ⟨b, o, none⟩)) :=
  ⟨b, o, B, d, rfl, range_part h hA, midOf_mk h hA hi, hu, hd, hi⟩
/-- append to a row that is owned: it may grow; where it then lies. -/
theorem run_append_where {P : Program} (w : World) (base : Nat) (t ty e : TypeId) (i : TypeInfo) (z : Value) (size bytes : Nat) (ht : P.underlying t = some (.slice e)) (hi : P.info? e = some i) (hz : i.zero = some z)
    (hsize : i.size = size) (hby : i.bytes = bytes) (hzs : z.cells.size = size) (hsz : 0 < size)
    (v : Value) (n : Nat) (xs : List Value) (hown : w.ownsRow base e size v n xs)
    (a : Addr) (m c : Nat) (news : List Value) (hm : 0 < m) (hl : news.length = m * size) (hnews : ∀ j u, news[j]? = some u → w.cell? (a.add j) = some u) (h1 : ∀ u ∈ news, u.oneCell' = true)
    (h63 : n + m ≤ maxLen) (hbytes : (n + m) * bytes ≤ 140737488355328) (hbase : base ≤ w.heap.size) :
    ∃ g cap w', (Builtin.append_ #[t, t] ty #[v, .slice (some a) m c]).run P w = .ok (.slice (some ⟨g, 0, none⟩) (n + m) cap) w' ∧ w'.ownsRow base e size (.slice (some ⟨g, 0, none⟩) (n + m) cap) (n + m) (xs ++ news) ∧
      w.grownBy w' v.ownBlock ∧ (v.ownBlock = some g ∨ w.heap.size ≤ g) := by
  obtain ⟨v', w', hr, h2, h3, _⟩ := run_append_own (P := P) w base t ty e i z size bytes ht hi hz hsize hby hzs hsz v n xs hown a m c news hl hnews h1 h63 hbytes hbase
  obtain ⟨g, cap, rfl⟩ : ∃ g cap, v' = .slice (some ⟨g, 0, none⟩) (n + m) cap := by
    rcases h2.2 with ⟨_, h0⟩ | ⟨g, cap, cur, hv, _⟩
    · omega
    · exact ⟨g, cap, hv⟩
  refine ⟨g, cap, w', hr, h2, h3, ?_⟩
  have same : ∀ u x, (Builtin.append_ #[t, t] ty #[v, .slice (some a) m c]).run P w = .ok u x → u = .slice (some ⟨g, 0, none⟩) (n + m) cap := by
    intro u x hx
    rw [hr] at hx
    injection hx with h _
    exact h.symm
  rcases hown.2 with ⟨rfl, rfl⟩ | ⟨g0, cap0, cur, rfl, hbg, hg, hnc, hcm, hcs, htake⟩
  · right
    have hx : xs = [] := List.eq_nil_of_length_eq_zero (by simpa using hown.1)
    subst hx
    obtain ⟨v2, w2, hr2, h22, _⟩ := run_append_own (P := P) w w.heap.size t ty e i z size bytes ht hi hz hsize hby hzs hsz _ 0 [] (World.ownsRow_nil w _ e size) a m c news hl hnews h1 h63 hbytes (Nat.le_refl _)
    have e := same _ _ hr2
    subst e
    rcases h22.2 with ⟨_, h0⟩ | ⟨g2, cap2, cur2, hv2, hb2, _⟩
    · omega
    · cases hv2; exact hb2
  · by_cases hroom : n + m ≤ cap0
    · left
      obtain ⟨w2, hr2, _⟩ := run_append_fits (P := P) w base t ty e i size ht hi hsize g0 n cap0 xs hown a m c news hl hnews h1 hroom
      have e := same _ _ hr2
      simp only [Value.slice.injEq, Option.some.injEq, Addr.mk.injEq, and_true, true_and] at e
      rw [Value.ownBlock, e.1]
    · right
      have holds : ∀ j u, xs[j]? = some u → w.cell? ((⟨g0, 0, none⟩ : Addr).add j) = some u := hown.cells (g := g0) rfl
      have hr2 := run_append_grow (P := P) w t ty e i z ht hi hz ⟨g0, 0, none⟩ n cap0 xs (by rw [hsize]; exact hown.1) holds a m c news (by rw [hsize]; exact hl) hnews (by omega) (by unfold maxLen at h63; omega) (growslice_fits (by omega) (by rw [hby]; exact hbytes))
      have e := same _ _ hr2
      simp only [Value.slice.injEq, Option.some.injEq, Addr.mk.injEq, and_true, true_and] at e
      omega
theorem step_append_own {P : Program} {ops : Array Oper} {o : Oper} {a : Act} {w : World} {K : Act → World → Prop} {Q : Exit → Act → World → Prop} {E : Prop} (hgd : o.guard = none) (s x : Operand) (t : TypeId)
    (ho : o.op = .call { callee := .builtin .append, args := #[s, x], argTypes := #[t, t] })
    (base : Nat) (e : TypeId) (i : TypeInfo) (z : Value) (size bytes : Nat) (ht : P.underlying t = some (.slice e)) (hi : P.info? e = some i) (hz : i.zero = some z)
    (hsize : i.size = size) (hby : i.bytes = bytes) (hzs : z.cells.size = size) (hsz : 0 < size)
    (v : Value) (n : Nat) (xs : List Value) (hs : a.eval s = v) (hown : w.ownsRow base e size v n xs)
    (ad : Addr) (m c : Nat) (news : List Value) (hx : a.eval x = .slice (some ad) m c) (hm : 0 < m) (hl : news.length = m * size) (hnews : ∀ j u, news[j]? = some u → w.cell? (ad.add j) = some u) (h1 : ∀ u ∈ news, u.oneCell' = true)
    (h63 : n + m ≤ maxLen) (hbytes : (n + m) * bytes ≤ 140737488355328) (hbase : base ≤ w.heap.size)
    (h : ∀ g cap w', Hid (w'.ownsRow base e size (.slice (some ⟨g, 0, none⟩) (n + m) cap) (n + m) (xs ++ news)) → Hid (w.grownBy w' v.ownBlock) → Hid (v.ownBlock = some g ∨ w.heap.size ≤ g) → K (a.put o.dst (.slice (some ⟨g, 0, none⟩) (n + m) cap)) w') :
    if Region.wanted o (yielded ops a.tmps) = true then Oper.wp P o a w K Q else E := by
  have hw : Region.wanted o (yielded ops a.tmps) = true := by simp [Region.wanted, hgd]
  rw [if_pos hw]
  obtain ⟨g, cap, w', hrun, h2, h3, h4⟩ := run_append_where w base t o.type e i z size bytes ht hi hz hsize hby hzs hsz v n xs hown ad m c news hm hl hnews h1 h63 hbytes hbase
  unfold Oper.wp
  simp [execOp, ho, resolve, invoke, builtin, hs, hx, hrun, Result.andThen]
  exact h g cap w' (Lib.hid h2) (Lib.hid h3) (Lib.hid h4)
/-- A slice literal of one row. -/
def ElemRow (P : Program) (T : TypeId) (v : Value) : Prop :=
  ∃ e ie z, P.underlying T = some (.slice e) ∧ P.info? e = some ie ∧ ie.zero = some z ∧ z.cells.size = ie.size ∧ 0 < ie.size ∧ ie.size ≤ 100000 ∧ v.cells.size = ie.size
theorem run_buildSlice_one {P : Program} {T : TypeId} {w : World} {ρ : Operand → Value} {dst : Option Tmp} {x : Operand} {ty : TypeId} {pos : String} {after : Array Edge} {guard : Option (Nat × Bool)} (h : ElemRow P T (ρ x)) :
    Sem.run P (execOp ρ { dst := dst, op := .buildSlice T 1 #[(0, x)], type := ty, pos := pos, after := after, guard := guard }) w = .ok (.value (.slice (some ⟨w.heap.size, 0, none⟩) 1 1)) (w.alloc (.cells (ρ x).cells (P.elem T))) := by
  obtain ⟨e, ie, z, hu, hie, hz, hzs, h0, h1, hv⟩ := h
  have hf := Great.fill_whole (s := ie.size) h0 [ρ x] ((Array.range (1 * ie.size)).map (z.cells[· % z.cells.size]!)) (by simpa using hv) (by simp)
  have he : P.elem T = e := by simp [Program.elem, hu]
  have hrun := run_buildSlice w T e 1 #[(0, ρ x)] _ ie z hu hie hz (by omega) (by omega) hf
  unfold execOp
  simp only [List.map_toArray, List.map_cons, List.map_nil, Sem.run_bind, hrun, Result.andThen_ok, he]
  simp
/-- Bytes copied from one block into the middle of another one, in a region that draws. -/
theorem step_copy_mid {P : Program} {ops : Array Oper} {o : Oper} {a : Act} {w : World} {K : Act → World → Prop} {Q : Exit → Act → World → Prop} {E : Prop} (hgd : o.guard = none) (d s : Operand) (dT sT : TypeId)
    (ho : o.op = .call { callee := .builtin .copy, args := #[d, s], argTypes := #[dT, sT] }) (elem : TypeId) (hu : P.underlying dT = some (.slice elem)) (hsz : (P.info? elem).map (·.size) = some 1)
    (b off dLen dCap c oc sLen sCap : Nat) (hd : a.eval d = .slice (some ⟨b, off, none⟩) dLen dCap) (hs : a.eval s = .slice (some ⟨c, oc, none⟩) sLen sCap)
    (cs : List Value) (hn : cs.length = Nat.min sLen dLen) (hr : w.rangeAt c oc cs) (h1 : ∀ v ∈ cs, v.oneCell' = true)
    (A B C : List Value) (T : TypeId) (hg : w.heap[b]? = some (.cells (A ++ (B ++ C)).toArray T (0, 0))) (hA : A.length = off) (hB : B.length = cs.length) (dst : Option Tmp) (hdst : o.dst = dst)
    (h : ∀ w', Hid (w'.heap[b]? = some (.cells (A ++ (cs ++ C)).toArray T (0, 0))) → Hid (Kept w.heap.size [b] w w') → K (a.put dst (goInt cs.length)) w') :
    if Region.wanted o (yielded ops a.tmps) = true then Oper.wp P o a w K Q else E := by
  subst hA hdst
  refine step_copy_cells hgd d s dT sT ho elem hu hsz b A.length dLen dCap c oc sLen sCap hd hs cs hn hr (there_of_list hg (by simp; omega)) h1 ?_
  refine h _ (Lib.hid ?_) (Lib.hid (kept_setCells _ _ _ _))
  have := setCells_list cs A.length _ w hg
  rw [laid_mid' _ _ _ _ hB] at this
  exact this
/-- A call of a Go function by its contract, in a region that draws. -/
theorem step_call {P : Program} {ops : Array Oper} {o : Oper} {a : Act} {w : World} {K : Act → World → Prop} {Q : Exit → Act → World → Prop} {E : Prop} (hgd : o.guard = none) (f : FuncId) (args : Array Value)
    (hrun : (execOp a.eval o).run P w = .ok (.enter f args) w) (v : Value) (R : World → Prop) (hc : Calls P f args w fun e w' => e = .returned v ∧ R w') (h : ∀ w', R w' → K (a.put o.dst v) w') :
    if Region.wanted o (yielded ops a.tmps) = true then Oper.wp P o a w K Q else E := by
  have hw : Region.wanted o (yielded ops a.tmps) = true := by simp [Region.wanted, hgd]
  rw [if_pos hw]
  unfold Oper.wp
  rw [hrun, Oper.upon_enter]
  refine hc.mono fun e w' hh => ?_
  obtain ⟨rfl, hr⟩ := hh
  exact h w' hr
/-- A call of a function value with one argument. -/
theorem step_call_func {P : Program} {ops : Array Oper} {o : Oper} {a : Act} {w : World} {K : Act → World → Prop} {Q : Exit → Act → World → Prop} {E : Prop} (hgd : o.guard = none) (fx ax : Operand) (tys : Array TypeId)
    (ho : o.op = .call { callee := .value fx, args := #[ax], argTypes := tys }) (f : FuncId) (cap : Array Value) (x : Value) (hf : a.eval fx = .func (.func f) #[] cap) (hx : a.eval ax = x)
    (he : ∀ args w, (callFunc f args).run P w = .ok (.enter f args) w) (v : Value) (R : World → Prop) (hc : Calls P f (#[x] ++ cap) w fun e w' => e = .returned v ∧ R w') (dst : Option Tmp) (hdst : o.dst = dst) (h : ∀ w', Hid (R w') → K (a.put dst v) w') :
    if Region.wanted o (yielded ops a.tmps) = true then Oper.wp P o a w K Q else E := by
  subst hdst
  refine step_call hgd f (#[x] ++ cap) ?_ v R hc (fun w' hr => h w' (Lib.hid hr))
  unfold execOp
  simp only [ho, resolve, hf, hx, Deferred.ofValue, invoke, Sem.run_bind, Sem.run_pure, Result.andThen_ok, List.map_toArray, List.map_cons, List.map_nil, Array.empty_append, he]
/-- 'arr[:k]' by its address. -/
theorem run_slice_to {P : Program} (w : World) (T n e b o k : Nat) (hu : P.underlying T = some (.array n e)) (hsz : (P.info? e).map (·.size) = some 1) (hk : k ≤ n) :
    (Instr.sliceAt T (.pointer (some ⟨b, o, none⟩)) none (some (.int .i64 (k : Int))) none).run P w = .ok (.slice (some ⟨b, o, none⟩) k n) w := by
  have hl : P.arrayLen T = n := by simp [Program.arrayLen, hu]
  have he : P.elem T = e := by simp [Program.elem, hu]
  cases hq : P.info? e with
  | none => simp [hq] at hsz
  | some i =>
    have hi : i.size = 1 := by simpa [hq] using hsz
    have hrun := run_sliceAt_array_h (P := P) w T ⟨b, o, none⟩ (by rw [hl, he]; exact hu) .i64 (k : Int) (by omega) (by rw [hl]; omega)
    have hs : (sizeOf (P.elem T)).run P w = .ok 1 w := by simp [sizeOf, typeInfo, he, hq, hi]
    rw [hs, hl] at hrun
    have hsl : slicedAt ⟨b, o, none⟩ 0 k n 1 = .slice (some ⟨b, o, none⟩) k n := by
      simp only [slicedAt, Nat.zero_mul, Nat.sub_zero]
      congr 2
      split
      · rfl
      · simp [Addr.add]
    simpa only [Result.andThen_ok, Int.toNat_natCast, hsl] using hrun
theorem owns_drew {w : World} {B n size : Nat} {e : TypeId} {v : Value} {xs : List Value} (h : w.ownsRow B e size v n xs) : w.drew.ownsRow B e size v n xs := h
theorem news_row {w : World} {g : Nat} {cs : List Value} {t : TypeId} {fr : Nat × Nat} (h : w.heap[g]? = some (.cells cs.toArray t fr)) : ∀ j u, cs[j]? = some u → w.cell? ((⟨g, 0, none⟩ : Addr).add j) = some u := by
  intro j u hj
  rw [Addr.add_mid, Nat.zero_add, cell_of_list h]; exact hj
end Go.Proofs.YthfnlnhehececaaDoor
