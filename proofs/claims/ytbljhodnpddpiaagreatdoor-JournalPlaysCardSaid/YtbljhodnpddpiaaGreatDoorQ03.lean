/- Several texts in one, in the order in which they build: DLaws DWrite. -/
import Derived.Test.YtbljhodnpddpiaaGreatDoorQ01
import Derived.Laws.AppendOwn
import Derived.Deep.RegionLaw
import Derived.Great.BuildSlice
import Derived.Test.YtbljhodnpddpiaaGreatDoorQ02
/- Laws at operations: what was stored or copied into a row, the world behind it a variable; a row loaded in a region that draws; append in such a region. No program is imported here. -/
namespace Go.Proofs.YtbljhodnpddpiaaGreatDoor
open Go.RowKit

theorem laid_mid' (vs : List Value) : ∀ (A B C : List Value), B.length = vs.length → laid (A ++ (B ++ C)) A.length vs = A ++ (vs ++ C) := by
  induction vs with
  | nil => intro A B C h; obtain rfl : B = [] := List.eq_nil_of_length_eq_zero (by simpa using h); rfl
  | cons v r ih =>
    intro A B C h
    cases B with
    | nil => simp at h
    | cons b B =>
      rw [laid, show (A ++ (b :: B ++ C)).set A.length v = (A ++ [v]) ++ (B ++ C) from by simp]
      have := ih (A ++ [v]) B C (by simpa using h)
      rw [List.length_append, List.length_singleton] at this
      rw [this]; simp
theorem kept_setCells (w : World) (g o : Nat) (vs : List Value) : Kept w.heap.size [g] w (w.setCells g o vs) := Kept.setCells (Or.inl (by simp)) vs (Kept.refl _ _ _) o
/-- A whole row stored into a block that is known. -/
theorem wpList_store_whole {P : Program} {ops : Array Oper} {rest : List Oper} {op : Oper} {a : Act} {w : World} {Q : Exit → Act → World → Prop} (hgd : op.guard = none) (ty : TypeId) (x y : Operand) (ho : op.op = .store ty x y)
    (b : Nat) (cells old : List Value) (t : TypeId) (hx : a.eval x = .pointer (some ⟨b, 0, none⟩)) (hy : a.eval y = .agg cells.toArray)
    (hg : w.heap[b]? = some (.cells old.toArray t (0, 0))) (hl : old.length = cells.length) (hi : (P.info? ty).map (·.size) = some cells.length) (h1 : ∀ v ∈ cells, v.oneCell' = true)
    (h : ∀ w', Hid (w'.heap[b]? = some (.cells cells.toArray t (0, 0))) → Hid (Kept w.heap.size [b] w w') → Hid (w'.heap.size = w.heap.size) → wpList P ops Q rest (a.put op.dst undef) w') : wpList P ops Q (op :: rest) a w := by
  refine wpList_store_mid hgd ty x y ho b 0 cells.toArray hx hy (there_of_list hg (by simp [hl])) (by simpa using hi) (all_oneCell_toArray h1) ?_
  refine h _ (Lib.hid ?_) (Lib.hid (kept_setCells _ _ _ _)) (Lib.hid (setCells_size _ _ _))
  have := setCells_list cells 0 old w hg
  rw [laid_whole old cells hl.symm] at this
  exact this
/-- A text copied into the middle of a block that is known. -/
theorem wpList_copy_text {P : Program} {w : World} {ops : Array Oper} {rest : List Oper} {o : Oper} {a : Act} {Q : Exit → Act → World → Prop} (hgd : o.guard = none) (d s : Operand) (dT sT : TypeId)
    (ho : o.op = .call { callee := .builtin .copy, args := #[d, s], argTypes := #[dT, sT] }) (elem : TypeId) (hu : P.underlying dT = some (.slice elem)) (hsz : (P.info? elem).map (·.size) = some 1)
    (b off n : Nat) (t : ByteArray) (hd : a.eval d = .slice (some ⟨b, off, none⟩) n n) (hs : a.eval s = .string t) (ht : t.size = n)
    (A B C : List Value) (T : TypeId) (hg : w.heap[b]? = some (.cells (A ++ (B ++ C)).toArray T (0, 0))) (hA : A.length = off) (hB : B.length = n)
    (h : ∀ w', Hid (w'.heap[b]? = some (.cells (A ++ (t.data.toList.map u8v ++ C)).toArray T (0, 0))) → Hid (Kept w.heap.size [b] w w') → Hid (w'.heap.size = w.heap.size) → wpList P ops Q rest (a.put o.dst (goInt n)) w') : wpList P ops Q (o :: rest) a w := by
  have hm : Nat.min t.size n = n := by rw [ht]; exact Nat.min_self n
  refine wpList_copy_str hgd d s dT sT ho elem hu hsz b off n n t hd hs (by rw [hm]; exact there_of_list hg (by simp; omega)) ?_
  rw [hm]
  have he : strCells t n = t.data.toList.map u8v := by rw [strCells, List.take_of_length_le (by rw [size_toList]; omega)]
  rw [he]
  subst hA
  refine h _ (Lib.hid ?_) (Lib.hid (kept_setCells _ _ _ _)) (Lib.hid (setCells_size _ _ _))
  have := setCells_list (t.data.toList.map u8v) A.length _ w hg
  rw [laid_mid' _ _ _ _ (by rw [List.length_map, size_toList, ht, hB])] at this
  exact this

/-! A row that is loaded in a region. -/
/-- The cells of what is of type T behind a pointer. -/
def midOf (P : Program) (T : TypeId) (w : World) (v : Value) : List Value :=
  match v with
  | .pointer (some a) => (match w.heap[a.block]? with | some (.cells c _ _) => (c.toList.drop a.off).take (((P.info? T).map (·.size)).getD 0) | _ => [])
  | _ => []
def RowyAt (P : Program) (T : TypeId) (w : World) (v : Value) : Prop :=
  ∃ b o cs d, v = .pointer (some ⟨b, o, none⟩) ∧ w.rangeAt b o cs ∧ midOf P T w v = cs ∧ P.underlying T = some d ∧ d.isRow = true ∧ (P.info? T).map (·.size) = some cs.length
theorem run_load_part {P : Program} {T : TypeId} {w : World} {ρ : Operand → Value} {dst : Option Tmp} {x : Operand} {ty : TypeId} {pos : String} {after : Array Edge} {guard : Option (Nat × Bool)} (h : RowyAt P T w (ρ x)) :
    Sem.run P (execOp ρ { dst := dst, op := .load T x, type := ty, pos := pos, after := after, guard := guard }) w = .ok (.value (.agg (midOf P T w (ρ x)).toArray)) w := by
  obtain ⟨b, o, cs, d, hv, hb, hm, hu, hd, hi⟩ := h
  unfold execOp
  rw [hm]
  simp only [hv, Sem.run_bind, run_loadAt_mid w b o T cs d hb hu hd hi, Result.andThen_ok]
  rfl
theorem midOf_mk {P : Program} {T : TypeId} {w : World} {b o : Nat} {A B C : List Value} {t : TypeId} {fr : Nat × Nat} (h : w.heap[b]? = some (.cells (A ++ (B ++ C)).toArray t fr)) (hA : A.length = o) (hi : (P.info? T).map (·.size) = some B.length) :
    midOf P T w (.pointer (some ⟨b, o, none⟩)) = B := by
  simp only [midOf, h, hi, Option.getD_some]
  rw [show o = A.length from hA.symm, List.drop_left, List.take_left]
theorem range_part {w : World} {b o : Nat} {A B C : List Value} {t : TypeId} {fr : Nat × Nat} (h : w.heap[b]? = some (.cells (A ++ (B ++ C)).toArray t fr)) (hA : A.length = o) : w.rangeAt b o B := by
  intro j v hv
  have hj : j < B.length := by
    rcases Nat.lt_or_ge j B.length with h | h
    · exact h
    · rw [List.getElem?_eq_none h] at hv; cases hv
  rw [cell_of_list h, List.getElem?_append_right (by omega), List.getElem?_append_left (by omega), show o + j - A.length = j from by omega]; exact hv
theorem rowyAt_mk {P : Program} {T : TypeId} {w : World} {b o : Nat} {A B C : List Value} {t : TypeId} {fr : Nat × Nat} {d : TypeDesc} (h : w.heap[b]? = some (.cells (A ++ (B ++ C)).toArray t fr)) (hA : A.length = o) (hi : (P.info? T).map (·.size) = some B.length)
    (hu : P.underlying T = some d) (hd : d.isRow = true) : RowyAt P T w (.pointer (some ⟨b, o, none⟩)) :=
  ⟨b, o, B, d, rfl, range_part h hA, midOf_mk h hA hi, hu, hd, hi⟩
/-- append to a row that is owned: it may grow; where it then lies. -/
theorem run_append_where {P : Program} (w : World) (base : Nat) (t ty e : TypeId) (i : TypeInfo) (z : Value) (size bytes : Nat) (ht : P.underlying t = some (.slice e)) (hi : P.info? e = some i) (hz : i.zero = some z)
    (hsize : i.size = size) (hby : i.bytes = bytes) (hzs : z.cells.size = size) (hsz : 0 < size)
    (v : Value) (n : Nat) (xs : List Value) (hown : w.ownsRow base e size v n xs)
    (a : Addr) (m c : Nat) (news : List Value) (hm : 0 < m) (hl : news.length = m * size) (hnews : ∀ j u, news[j]? = some u → w.cell? (a.add j) = some u) (h1 : ∀ u ∈ news, u.oneCell' = true)
    (h63 : n + m ≤ maxLen) (hbytes : (n + m) * bytes ≤ 140737488355328) (hbase : base ≤ w.heap.size) :
    ∃ g cap w', (Builtin.append_ #[t, t] ty #[v, .slice (some a) m c]).run P w = .ok (.slice (some ⟨g, 0, none⟩) (n + m) cap) w' ∧ w'.ownsRow base e size (.slice (some ⟨g, 0, none⟩) (n + m) cap) (n + m) (xs ++ news) ∧
      w.grownBy w' v.ownBlock ∧ (v.ownBlock = some g ∨ w.heap.size ≤ g) := by
  obtain ⟨v', w', hr, h2, h3, _⟩ := run_append_own (P := P) w base t ty e i z size bytes ht hi hz hsize hby hzs hsz v n xs hown a m c news hl hnews h1 h63 hbytes hbase
  obtain ⟨g, cap, rfl⟩ : ∃ g cap, v' = .slice (some ⟨g, 0, none⟩) (n + m) cap := by
    rcases h2.2 with ⟨_, h0⟩ | ⟨g, cap, cur, hv, _⟩
    · omega
    · exact ⟨g, cap, hv⟩
  refine ⟨g, cap, w', hr, h2, h3, ?_⟩
  have same : ∀ u x, (Builtin.append_ #[t, t] ty #[v, .slice (some a) m c]).run P w = .ok u x → u = .slice (some ⟨g, 0, none⟩) (n + m) cap := by
    intro u x hx
    rw [hr] at hx
    injection hx with h _
    exact h.symm
  rcases hown.2 with ⟨rfl, rfl⟩ | ⟨g0, cap0, cur, rfl, hbg, hg, hnc, hcm, hcs, htake⟩
  · right
    have hx : xs = [] := List.eq_nil_of_length_eq_zero (by simpa using hown.1)
    subst hx
    obtain ⟨v2, w2, hr2, h22, _⟩ := run_append_own (P := P) w w.heap.size t ty e i z size bytes ht hi hz hsize hby hzs hsz _ 0 [] (World.ownsRow_nil w _ e size) a m c news hl hnews h1 h63 hbytes (Nat.le_refl _)
    have e := same _ _ hr2
    subst e
    rcases h22.2 with ⟨_, h0⟩ | ⟨g2, cap2, cur2, hv2, hb2, _⟩
    · omega
    · cases hv2; exact hb2
  · by_cases hroom : n + m ≤ cap0
    · left
      obtain ⟨w2, hr2, _⟩ := run_append_fits (P := P) w base t ty e i size ht hi hsize g0 n cap0 xs hown a m c news hl hnews h1 hroom
      have e := same _ _ hr2
      simp only [Value.slice.injEq, Option.some.injEq, Addr.mk.injEq, and_true, true_and] at e
      rw [Value.ownBlock, e.1]
    · right
      have holds : ∀ j u, xs[j]? = some u → w.cell? ((⟨g0, 0, none⟩ : Addr).add j) = some u := hown.cells (g := g0) rfl
      have hr2 := run_append_grow (P := P) w t ty e i z ht hi hz ⟨g0, 0, none⟩ n cap0 xs (by rw [hsize]; exact hown.1) holds a m c news (by rw [hsize]; exact hl) hnews (by omega) (by unfold maxLen at h63; omega) (growslice_fits (by omega) (by rw [hby]; exact hbytes))
      have e := same _ _ hr2
      simp only [Value.slice.injEq, Option.some.injEq, Addr.mk.injEq, and_true, true_and] at e
      omega
theorem step_append_own {P : Program} {ops : Array Oper} {o : Oper} {a : Act} {w : World} {K : Act → World → Prop} {Q : Exit → Act → World → Prop} {E : Prop} (hgd : o.guard = none) (s x : Operand) (t : TypeId)
    (ho : o.op = .call { callee := .builtin .append, args := #[s, x], argTypes := #[t, t] })
    (base : Nat) (e : TypeId) (i : TypeInfo) (z : Value) (size bytes : Nat) (ht : P.underlying t = some (.slice e)) (hi : P.info? e = some i) (hz : i.zero = some z)
    (hsize : i.size = size) (hby : i.bytes = bytes) (hzs : z.cells.size = size) (hsz : 0 < size)
    (v : Value) (n : Nat) (xs : List Value) (hs : a.eval s = v) (hown : w.ownsRow base e size v n xs)
    (ad : Addr) (m c : Nat) (news : List Value) (hx : a.eval x = .slice (some ad) m c) (hm : 0 < m) (hl : news.length = m * size) (hnews : ∀ j u, news[j]? = some u → w.cell? (ad.add j) = some u) (h1 : ∀ u ∈ news, u.oneCell' = true)
    (h63 : n + m ≤ maxLen) (hbytes : (n + m) * bytes ≤ 140737488355328) (hbase : base ≤ w.heap.size)
    (h : ∀ g cap w', Hid (w'.ownsRow base e size (.slice (some ⟨g, 0, none⟩) (n + m) cap) (n + m) (xs ++ news)) → Hid (w.grownBy w' v.ownBlock) → Hid (v.ownBlock = some g ∨ w.heap.size ≤ g) → K (a.put o.dst (.slice (some ⟨g, 0, none⟩) (n + m) cap)) w') :
    if Region.wanted o (yielded ops a.tmps) = true then Oper.wp P o a w K Q else E := by
  have hw : Region.wanted o (yielded ops a.tmps) = true := by simp [Region.wanted, hgd]
  rw [if_pos hw]
  obtain ⟨g, cap, w', hrun, h2, h3, h4⟩ := run_append_where w base t o.type e i z size bytes ht hi hz hsize hby hzs hsz v n xs hown ad m c news hm hl hnews h1 h63 hbytes hbase
  unfold Oper.wp
  simp [execOp, ho, resolve, invoke, builtin, hs, hx, hrun, Result.andThen]
  exact h g cap w' (Lib.hid h2) (Lib.hid h3) (Lib.hid h4)
/-- A slice literal of one row. -/
def ElemRow (P : Program) (T : TypeId) (v : Value) : Prop :=
  ∃ e ie z, P.underlying T = some (.slice e) ∧ P.info? e = some ie ∧ ie.zero = some z ∧ z.cells.size = ie.size ∧ 0 < ie.size ∧ ie.size ≤ 100000 ∧ v.cells.size = ie.size
theorem run_buildSlice_one {P : Program} {T : TypeId} {w : World} {ρ : Operand → Value} {dst : Option Tmp} {x : Operand} {ty : TypeId} {pos : String} {after : Array Edge} {guard : Option (Nat × Bool)} (h : ElemRow P T (ρ x)) :
    Sem.run P (execOp ρ { dst := dst, op := .buildSlice T 1 #[(0, x)], type := ty, pos := pos, after := after, guard := guard }) w = .ok (.value (.slice (some ⟨w.heap.size, 0, none⟩) 1 1)) (w.alloc (.cells (ρ x).cells (P.elem T))) := by
  obtain ⟨e, ie, z, hu, hie, hz, hzs, h0, h1, hv⟩ := h
  have hf := Great.fill_whole (s := ie.size) h0 [ρ x] ((Array.range (1 * ie.size)).map (z.cells[· % z.cells.size]!)) (by simpa using hv) (by simp)
  have he : P.elem T = e := by simp [Program.elem, hu]
  have hrun := run_buildSlice w T e 1 #[(0, ρ x)] _ ie z hu hie hz (by omega) (by omega) hf
  unfold execOp
  simp only [List.map_toArray, List.map_cons, List.map_nil, Sem.run_bind, hrun, Result.andThen_ok, he]
  simp
/-- Bytes copied from one block into the middle of another one, in a region that draws. -/
theorem step_copy_mid {P : Program} {ops : Array Oper} {o : Oper} {a : Act} {w : World} {K : Act → World → Prop} {Q : Exit → Act → World → Prop} {E : Prop} (hgd : o.guard = none) (d s : Operand) (dT sT : TypeId)
    (ho : o.op = .call { callee := .builtin .copy, args := #[d, s], argTypes := #[dT, sT] }) (elem : TypeId) (hu : P.underlying dT = some (.slice elem)) (hsz : (P.info? elem).map (·.size) = some 1)
    (b off dLen dCap c oc sLen sCap : Nat) (hd : a.eval d = .slice (some ⟨b, off, none⟩) dLen dCap) (hs : a.eval s = .slice (some ⟨c, oc, none⟩) sLen sCap)
    (cs : List Value) (hn : cs.length = Nat.min sLen dLen) (hr : w.rangeAt c oc cs) (h1 : ∀ v ∈ cs, v.oneCell' = true)
    (A B C : List Value) (T : TypeId) (hg : w.heap[b]? = some (.cells (A ++ (B ++ C)).toArray T (0, 0))) (hA : A.length = off) (hB : B.length = cs.length) (dst : Option Tmp) (hdst : o.dst = dst)
    (h : ∀ w', Hid (w'.heap[b]? = some (.cells (A ++ (cs ++ C)).toArray T (0, 0))) → Hid (Kept w.heap.size [b] w w') → K (a.put dst (goInt cs.length)) w') :
    if Region.wanted o (yielded ops a.tmps) = true then Oper.wp P o a w K Q else E := by
  subst hA hdst
  refine step_copy_cells hgd d s dT sT ho elem hu hsz b A.length dLen dCap c oc sLen sCap hd hs cs hn hr (there_of_list hg (by simp; omega)) h1 ?_
  refine h _ (Lib.hid ?_) (Lib.hid (kept_setCells _ _ _ _))
  have := setCells_list cs A.length _ w hg
  rw [laid_mid' _ _ _ _ hB] at this
  exact this
/-- A call of a Go function by its contract, in a region that draws. -/
theorem step_call {P : Program} {ops : Array Oper} {o : Oper} {a : Act} {w : World} {K : Act → World → Prop} {Q : Exit → Act → World → Prop} {E : Prop} (hgd : o.guard = none) (f : FuncId) (args : Array Value)
    (hrun : (execOp a.eval o).run P w = .ok (.enter f args) w) (v : Value) (R : World → Prop) (hc : Calls P f args w fun e w' => e = .returned v ∧ R w') (h : ∀ w', R w' → K (a.put o.dst v) w') :
    if Region.wanted o (yielded ops a.tmps) = true then Oper.wp P o a w K Q else E := by
  have hw : Region.wanted o (yielded ops a.tmps) = true := by simp [Region.wanted, hgd]
  rw [if_pos hw]
  unfold Oper.wp
  rw [hrun, Oper.upon_enter]
  refine hc.mono fun e w' hh => ?_
  obtain ⟨rfl, hr⟩ := hh
  exact h w' hr
/-- A call of a function value with one argument. -/
theorem step_call_func {P : Program} {ops : Array Oper} {o : Oper} {a : Act} {w : World} {K : Act → World → Prop} {Q : Exit → Act → World → Prop} {E : Prop} (hgd : o.guard = none) (fx ax : Operand) (tys : Array TypeId)
    (ho : o.op = .call { callee := .value fx, args := #[ax], argTypes := tys }) (f : FuncId) (cap : Array Value) (x : Value) (hf : a.eval fx = .func (.func f) #[] cap) (hx : a.eval ax = x)
    (he : ∀ args w, (callFunc f args).run P w = .ok (.enter f args) w) (v : Value) (R : World → Prop) (hc : Calls P f (#[x] ++ cap) w fun e w' => e = .returned v ∧ R w') (dst : Option Tmp) (hdst : o.dst = dst) (h : ∀ w', Hid (R w') → K (a.put dst v) w') :
    if Region.wanted o (yielded ops a.tmps) = true then Oper.wp P o a w K Q else E := by
  subst hdst
  refine step_call hgd f (#[x] ++ cap) ?_ v R hc (fun w' hr => h w' (Lib.hid hr))
  unfold execOp
  simp only [ho, resolve, hf, hx, Deferred.ofValue, invoke, Sem.run_bind, Sem.run_pure, Result.andThen_ok, List.map_toArray, List.map_cons, List.map_nil, Array.empty_append, he]
/-- 'arr[:k]' by its address. -/
theorem run_slice_to {P : Program} (w : World) (T n e b o k : Nat) (hu : P.underlying T = some (.array n e)) (hsz : (P.info? e).map (·.size) = some 1) (hk : k ≤ n) :
    (Instr.sliceAt T (.pointer (some ⟨b, o, none⟩)) none (some (.int .i64 (k : Int))) none).run P w = .ok (.slice (some ⟨b, o, none⟩) k n) w := by
  have hl : P.arrayLen T = n := by simp [Program.arrayLen, hu]
  have he : P.elem T = e := by simp [Program.elem, hu]
  cases hq : P.info? e with
  | none => simp [hq] at hsz
  | some i =>
    have hi : i.size = 1 := by simpa [hq] using hsz
    have hrun := run_sliceAt_array_h (P := P) w T ⟨b, o, none⟩ (by rw [hl, he]; exact hu) .i64 (k : Int) (by omega) (by rw [hl]; omega)
    have hs : (sizeOf (P.elem T)).run P w = .ok 1 w := by simp [sizeOf, typeInfo, he, hq, hi]
    rw [hs, hl] at hrun
    have hsl : slicedAt ⟨b, o, none⟩ 0 k n 1 = .slice (some ⟨b, o, none⟩) k n := by
      simp only [slicedAt, Nat.zero_mul, Nat.sub_zero]
      congr 2
      split
      · rfl
      · simp [Addr.add]
    simpa only [Result.andThen_ok, Int.toNat_natCast, hsl] using hrun
theorem owns_drew {w : World} {B n size : Nat} {e : TypeId} {v : Value} {xs : List Value} (h : w.ownsRow B e size v n xs) : w.drew.ownsRow B e size v n xs := h
theorem news_row {w : World} {g : Nat} {cs : List Value} {t : TypeId} {fr : Nat × Nat} (h : w.heap[g]? = some (.cells cs.toArray t fr)) : ∀ j u, cs[j]? = some u → w.cell? ((⟨g, 0, none⟩ : Addr).add j) = some u := by
  intro j u hj
  rw [Addr.add_mid, Nat.zero_add, cell_of_list h]; exact hj
end Go.Proofs.YtbljhodnpddpiaaGreatDoor

/- The walks of a sector's writing. -/
namespace Go.Proofs.YtbljhodnpddpiaaGreatDoor
open Go.RowKit

/-- A write's cells, before its bytes are laid in. -/
def wr0 (a : Nat) : List Value := natv a :: List.replicate 64 (.int .u8 0)
theorem built_wr (a : Nat) : Tryz.prog.built 111 [(0, .int .i64 (a : Int))] = some (wr0 a).toArray := by kernel_rfl
theorem alloc_wr (w : World) : (Instr.alloc 111 true (.tuple #[])).run Tryz.prog w = .ok (.pointer (some ⟨w.heap.size, 0, none⟩)) (w.alloc (.cells (wr0 0).toArray 111)) := by kernel_rfl
theorem length_wr0 (a : Nat) : (wr0 a).length = 65 := by simp [wr0]
theorem size_write : (Tryz.prog.info? 111).map (·.size) = some 65 := by kernel_rfl
theorem infoWrite : (Tryz.prog.info? 111).map (fun i => (i.zero, i.size, i.bytes)) = some (some (.agg (wr0 0).toArray), 65, 72) := by kernel_rfl
theorem wr0_ones (a : Nat) : ∀ v ∈ wr0 a, v.oneCell' = true := by
  intro v hv
  rw [wr0] at hv
  rcases List.mem_cons.1 hv with rfl | h
  · rfl
  · rw [List.eq_of_mem_replicate h]; rfl
theorem elem_write {cs : List Value} (h : cs.length = 65) : ElemRow Tryz.prog 63 (.agg cs.toArray) := by
  obtain ⟨i0, hi, hz0, hz1, hz2⟩ := info_parts infoWrite
  exact ⟨111, i0, _, Tryz.underlying63, hi, hz0, by rw [hz1]; simp [Value.cells, wr0], by omega, by omega, by rw [hz1]; simpa [Value.cells] using h⟩
attribute [local go_sem ↓] run_load_part run_buildSlice_one

theorem blk5 {w2 w5 : World} {o : Obj} {row : Option Nat} (h : ((w2.alloc o).drew).grownBy w5 row) {x : Nat} (hx : x < w2.heap.size) (hr : row ≠ some x) : w5.heap[x]? = w2.heap[x]? :=
  (h.block x (by simp; omega) (fun e => hr e.symm)).trans (heap_alloc_old w2 o hx)
theorem LiveAt.own_ne {d p bl bn : Nat} {pv : Value} {n : Nat} {S : List (List UInt8)} {ps : List Dk.Wr} {life : Int} {w : World} (h : LiveAt d p bl bn pv n S ps life w) : pv.ownBlock ≠ some d ∧ pv.ownBlock ≠ some bl ∧ pv.ownBlock ≠ some bn ∧ pv.ownBlock ≠ some p :=
  ⟨fun e => (h.own _ e).1 rfl, fun e => (h.own _ e).2.1 rfl, fun e => (h.own _ e).2.2.1 rfl, fun e => (h.own _ e).2.2.2 rfl⟩
/-- The disk's cells behind the append. -/
def objOf (p bl bn g5 N cap5 n : Nat) (life : Int) : List Value := [Value.pointer (some ⟨p, 0, none⟩), .slice (some ⟨bl, 0, none⟩) n n, .slice (some ⟨g5, 0, none⟩) N cap5, .slice (some ⟨bn, 0, none⟩) n n, natv n, .int .i64 life]
theorem write_obj {d p bl bn n g5 cap5 : Nat} {pv : Value} {S : List (List UInt8)} {ps : List Dk.Wr} {life : Int} {w2 w5 : World} {o : Obj} (h : LiveAt d p bl bn pv n S ps life w2) (hg : ((w2.alloc o).drew).grownBy w5 pv.ownBlock) :
    (w5.setCell ⟨d, 2, none⟩ (.slice (some ⟨g5, 0, none⟩) (ps.length + 1) cap5)).heap[d]? = some (.cells (objOf p bl bn g5 (ps.length + 1) cap5 n life).toArray 68 (0, 0)) ∧
    (w5.setCell ⟨d, 2, none⟩ (.slice (some ⟨g5, 0, none⟩) (ps.length + 1) cap5)).heap[bn]? = some (.cells ((Dk.news n ps).map natv).toArray 3 (0, 0)) := by
  constructor
  · exact set_list ((blk5 hg h.lt h.own_ne.1).trans h.obj) 2 _
  · rw [heap_setCell_other _ _ _ _ (fun e => h.d2 e.symm)]
    exact (blk5 hg (lt_of_heap h.nws) h.own_ne.2.2.1).trans h.nws
theorem write_live {d p bl bn n g5 cap5 a : Nat} {pv : Value} {S : List (List UInt8)} {ps : List Dk.Wr} {life : Int} {w2 w5 w6 w7 : World} {o : Obj} {cs : List Value} {l : List UInt8} (h : LiveAt d p bl bn pv n S ps life w2)
    (hown : w5.ownsRow 0 111 65 (.slice (some ⟨g5, 0, none⟩) (ps.length + 1) cap5) (ps.length + 1) (pendCells ps ++ cs)) (hcs : cs = wrCells (a, l))
    (hg : ((w2.alloc o).drew).grownBy w5 pv.ownBlock) (hw : pv.ownBlock = some g5 ∨ ((w2.alloc o).drew).heap.size ≤ g5) (ha : a < n) (hl : l.length = 64) (hf : ps.length < 1000000) (hp : p < w2.heap.size)
    (h6 : w6 = w5.setCell ⟨d, 2, none⟩ (.slice (some ⟨g5, 0, none⟩) (ps.length + 1) cap5)) (h7 : w7 = (w6.setCell ⟨bn, a, none⟩ (.int .i64 ((ps.length : Int) + 1))).drew) :
    LiveAt d p bl bn (.slice (some ⟨g5, 0, none⟩) (ps.length + 1) cap5) n S (ps ++ [(a, l)]) life w7 ∧ Kept w2.heap.size ([d, bn] ++ pv.ownBlock.toList) w2 w7 := by
  obtain ⟨o6, n6⟩ := write_obj (g5 := g5) (cap5 := cap5) h hg
  rw [← h6] at o6 n6
  have hgne : g5 ≠ d ∧ g5 ≠ bl ∧ g5 ≠ bn ∧ g5 ≠ p := by
    rcases hw with hw | hw
    · exact h.own _ hw
    · have := h.lt
      have := lt_of_heap h.lst
      have := lt_of_heap h.nws
      simp at hw
      omega
  have hd7 : w7.heap[d]? = w6.heap[d]? := by rw [h7, heap_drew, heap_setCell_other _ _ _ _ h.d2]
  have hl7 : w7.heap[bl]? = w2.heap[bl]? := by
    rw [h7, heap_drew, heap_setCell_other _ _ _ _ h.d3, h6, heap_setCell_other _ _ _ _ (fun e => h.d1 e.symm)]
    exact blk5 hg (lt_of_heap h.lst) h.own_ne.2.1
  have hn7 : w7.heap[bn]? = some (.cells ((Dk.news n (ps ++ [(a, l)])).map natv).toArray 3 (0, 0)) := by
    rw [h7, heap_drew, Dk.news_snoc, List.map_set]
    exact set_list n6 a _
  have hg7 : w7.heap[g5]? = w5.heap[g5]? := by
    rw [h7, heap_drew, heap_setCell_other _ _ _ _ hgne.2.2.1, h6, heap_setCell_other _ _ _ _ hgne.1]
  refine ⟨⟨hd7.trans o6, hl7.trans h.lst, hn7, ?_, h.len, h.n1, h.n2, h.wide, ?_, ?_, h.d1, h.d2, h.d3, h.p0, h.p1, h.p2, ?_⟩, ?_⟩
  · rw [pend_snoc, ← hcs, List.length_append]
    refine own_keep hown (fun g hg' => ?_)
    simp only [Value.ownBlock, Option.some.injEq] at hg'
    rw [← hg']; exact hg7
  · intro x hx
    rcases List.mem_append.1 hx with hx | hx
    · exact h.wrs x hx
    · rw [List.mem_singleton.1 hx]; exact ⟨ha, hl⟩
  · rw [List.length_append]; simp; omega
  · intro g hg'
    simp only [Value.ownBlock, Option.some.injEq] at hg'
    rw [← hg']; exact hgne
  · refine ⟨?_, ?_, ?_, ?_, ?_⟩
    · rw [h7, h6]; exact hg.os
    · rw [h7, h6]; exact hg.tape
    · rw [h7, h6]; exact hg.output
    · rw [h7, h6]; have := hg.size; simp [World.setCell] at this ⊢; omega
    · intro k hk hn
      simp only [List.mem_append, List.mem_cons, List.not_mem_nil, or_false, not_or] at hn
      rw [h7, heap_drew, heap_setCell_other _ _ _ _ hn.1.2, h6, heap_setCell_other _ _ _ _ hn.1.1]
      exact blk5 hg hk (fun e => hn.2 (by rw [e]; simp))
set_option maxRecDepth 100000 in
set_option maxHeartbeats 1000000 in
theorem Mwrite_any (d p bl bn : Nat) (pv : Value) (n : Nat) (S : List (List UInt8)) (ps : List Dk.Wr) (life : Int) (a : Nat) (q : ByteArray) (ha : a < n) (hq : q.size = 64) (hfew : ps.length < 1000000) (w : World) (hp : p < w.heap.size) (h : LiveAt d p bl bn pv n S ps life w) :
    Calls Tryz.prog 29 #[.pointer (some ⟨d, 1, none⟩), .int .i64 a, .string q] w fun e w' => e = .returned (.tuple #[]) ∧
      (∃ pv', LiveAt d p bl bn pv' n S (ps ++ [(a, q.data.toList)]) life w' ∧ (∀ g, pv'.ownBlock = some g → pv.ownBlock = some g ∨ w.heap.size ≤ g)) ∧ (∃ ws, (∀ x ∈ ws, x = d ∨ x = bn ∨ pv.ownBlock = some x) ∧ Kept w.heap.size ws w w') := by
  obtain ⟨i0, hi, hz0, hz1, hzb⟩ := info_parts infoWrite
  have H := Lib.hid h
  have hdlt := h.lt
  have HF := Lib.hid hfew
  clear h hfew
  have hbw : ∀ (act : Act) (w : World), act.eval (.tmp 7) = .int .i64 (a : Int) → (Instr.build 111 ((#[(0, .tmp 7)] : Array (Nat × Operand)).map fun (i, x) => (i, act.eval x))).run Tryz.prog w = .ok (.agg (wr0 a).toArray) w := by
    intro act w h1
    refine run_build w _ _ _ ?_
    rw [← built_wr a]; simp [h1]
  have HW := Lib.hid hbw
  clear hbw
  obtain ⟨c0, hc0⟩ : ∃ c0, c0 = wr0 a := ⟨_, rfl⟩
  obtain ⟨z0, hz⟩ : ∃ z0, z0 = wr0 0 := ⟨_, rfl⟩
  have HA := alloc_wr
  rw [← hc0] at HW
  rw [← hz] at HA
  have HC0 := Lib.hid hc0
  have HZ0 := Lib.hid hz
  have HA' := Lib.hid HA
  clear hc0 hz HA
  go_enter Tryz.func29, Tryz.ntmps29
  go_wp2_with (first | (refine wpList_build rfl 111 _ rfl c0 (HW.out _ _ rfl) ?_; go_frame) | (refine wpList_alloc rfl 111 rfl z0 HA'.out ?_; go_frame) | (refine wpList_store_whole rfl 111 _ _ rfl w.heap.size c0 z0 111 rfl rfl (heap_alloc_new _ _) (by rw [HC0.out, HZ0.out, length_wr0, length_wr0]) (by rw [HC0.out, length_wr0]; exact size_write) (by rw [HC0.out]; exact wr0_ones a) ?_; intro w1 hg1 hk1 hs1; go_frame) | (refine wpList_copy_text rfl _ _ 59 9 rfl 5 Tryz.underlying59 (by kernel_rfl) w.heap.size 1 64 q rfl rfl hq [natv a] (List.replicate 64 (.int .u8 0)) [] 111 (by rw [hg1.out, HC0.out, wr0]; simp) rfl (by simp) ?_; intro w2 hg2 hk2 hs2; go_frame) | fail)
  have hs1' := hs1.out
  rw [World.size_alloc] at hs1'
  have hz2 : w.heap.size < w2.heap.size := by rw [hs2.out]; omega
  have B2 : Below w.heap.size w w2 := by
    have b0 : Below w.heap.size w (w.alloc (.cells z0.toArray 111)) := (Below.refl _ _).alloc (Nat.le_refl _) _
    have b1 := b0.trans ((hk1.out.mono (B := w.heap.size) (ws := [w.heap.size]) (by simp) (fun _ _ h => h)).below (by simp))
    exact b1.trans ((hk2.out.mono (B := w.heap.size) (ws := [w.heap.size]) (by omega) (fun _ _ h => h)).below (by simp))
  have H2 : LiveAt d p bl bn pv n S ps life w2 := H.out.keep (B2.block _ hdlt) (B2.block _ (lt_of_heap H.out.lst)) (B2.block _ (lt_of_heap H.out.nws)) (fun g hg => B2.block _ (H.out.pnd.lt g hg).2)
  obtain ⟨cs, hcs⟩ : ∃ cs, cs = wrCells (a, q.data.toList) := ⟨_, rfl⟩
  have hcl : cs.length = 65 := by rw [hcs, wrCells, List.length_cons, List.length_map, size_toList, hq]
  have hco : ∀ v ∈ cs, v.oneCell' = true := by rw [hcs]; exact wr_ones _
  have g2 : w2.heap[w.heap.size]? = some (.cells ([] ++ (cs ++ [])).toArray 111 (0, 0)) := by rw [hg2.out, hcs, wrCells]; simp
  have g2d : w2.drew.heap[w.heap.size]? = some (.cells ([] ++ (cs ++ [])).toArray 111 (0, 0)) := g2
  have row : RowyAt Tryz.prog 111 w2.drew (.pointer (some ⟨w.heap.size, 0, none⟩)) := rowyAt_mk g2d rfl (by rw [hcl]; exact size_write) Tryz.underlying111 rfl
  have hmid : midOf Tryz.prog 111 w2.drew (.pointer (some ⟨w.heap.size, 0, none⟩)) = cs := midOf_mk g2d rfl (by rw [hcl]; exact size_write : (Tryz.prog.info? 111).map (·.size) = some cs.length)
  have hel := elem_write hcl
  clear g2d
  have c2 := H2.c2
  have f2 := H2.free 2
  have hd2 := H2.lt
  have HH2 := Lib.hid H2
  have HB2 := Lib.hid B2
  have HG2 := Lib.hid g2
  have HCL := Lib.hid hcl
  have HCO := Lib.hid hco
  have HCS := Lib.hid hcs
  clear H2 B2 g2 hcl hco hcs hs1' hs1 hs2 hk1 hk2 hg1 hg2
  go_region_law (refine step_append_own rfl _ _ 63 rfl 0 111 i0 _ 65 72 Tryz.underlying63 hi hz0 hz1 hzb (by simp [Value.cells, wr0]) (by omega) pv ps.length (pendCells ps) rfl (by first | exact owns_drew (HH2.out.pnd.alloc _) | exact (owns_drew HH2.out.pnd).alloc _) _ 1 1 cs rfl (by omega) HCL.out (news_row (by first | exact heap_alloc_new _ _ | exact (by rw [heap_drew]; exact heap_alloc_new _ _))) HCO.out (by have := HF.out; unfold maxLen; omega) (by have := HF.out; omega) (by omega) ?_; intro g5 cap5 w5 h5 hg5 hw5; have e5 := Lib.hid (blk5 hg5.out hd2 HH2.out.own_ne.1); have c5 : w5.cell? ⟨d, 2, none⟩ = some pv := (World.cell?_of_block e5.out).trans c2; have f5 : w5.frozen? ⟨d, 2, none⟩ = false := (World.frozen?_of_block e5.out).trans f2)
  all_goals go_wp2
  all_goals
    obtain ⟨w6, hw6⟩ : ∃ w6, w6 = w5.setCell ⟨d, 2, none⟩ (.slice (some ⟨g5, 0, none⟩) (ps.length + 1) cap5) := ⟨_, rfl⟩
    obtain ⟨o6, n6⟩ := write_obj (g5 := g5) (cap5 := cap5) HH2.out hg5.out
    rw [← hw6] at o6 n6
    rw [← hw6]
    have W6 := Lib.hid hw6
    have k2 : w6.cell? ⟨d, 2, none⟩ = some (.slice (some ⟨g5, 0, none⟩) (ps.length + 1) cap5) := by rw [cell_of_list o6]; rfl
    have k3 : w6.cell? ⟨d, 3, none⟩ = some (.slice (some ⟨bn, 0, none⟩) n n) := by rw [cell_of_list o6]; rfl
    have kn := cell_nat n6 (by rw [Dk.length_news]; exact ha) rfl
    have kf := free_of_list n6 a
    clear hw6 c2 f2 c5 f5 o6 n6 row hmid hel
    have hN2 := HH2.out.n2
    go_region
    go_wp2
    go_end0
    obtain ⟨hl, hk⟩ := write_live HH2.out h5.out HCS.out hg5.out hw5.out ha (by rw [size_toList, hq]) HF.out (by omega) W6.out rfl
    refine ⟨rfl, ⟨_, hl, ?_⟩, ⟨[d, bn] ++ pv.ownBlock.toList, ?_, ?_⟩⟩
    · intro g hg'
      simp only [Value.ownBlock, Option.some.injEq] at hg'
      subst hg'
      rcases hw5.out with h | h
      · exact Or.inl h
      · right; simp at h; omega
    · intro x hx
      simp only [List.mem_append, List.mem_cons, List.not_mem_nil, or_false, Option.mem_toList] at hx
      rcases hx with (hx | hx) | hx
      · exact Or.inl hx
      · exact Or.inr (Or.inl hx)
      · exact Or.inr (Or.inr hx)
    · exact (Kept.of_below HB2.out).trans (hk.mono (by omega) (fun _ _ h => h))
set_option maxHeartbeats 1000000 in
theorem Write_ok (d p : Nat) (F : List Nat) (n : Nat) (S : List (List UInt8)) (ps : List Dk.Wr) (life fuse acts : Int) (a : Nat) (q : ByteArray) (ha : a < n) (hq : q.size = 64) (hfew : ps.length < 1000000)
    (hf : fuse ≠ 0) (hf1 : -1 ≤ fuse) (hf2 : fuse ≤ 9223372036854775807) (ha0 : 0 ≤ acts) (ha1 : acts ≤ 1000000000000) (w : World) (h : Live d p F n S ps life w) (hp : PowerAt p false fuse acts w) :
    Calls Tryz.prog 8 #[.pointer (some ⟨d, 0, none⟩), .int .i64 a, .string q] w fun e w' => e = .returned .nilIface ∧
      ∃ F', Live d p F' n S (ps ++ [(a, q.data.toList)]) life w' ∧ PowerAt p false (less fuse) (acts + 1) w' ∧ (∀ x ∈ F', x ∈ F ∨ w.heap.size ≤ x) ∧ Kept w.heap.size (p :: F) w w' := by
  obtain ⟨bl, bn, pv, h, k1, k2, k3, k4, k5, k6⟩ := h
  have c0 := h.c0
  have c1 := h.c1
  have hpl := hp.lt
  have H := Lib.hid h
  have HP := Lib.hid hp
  have HF := Lib.hid hfew
  have HZ := Lib.hid hf
  have K5 := Lib.hid k5
  have K := Lib.hid (And.intro k1 (And.intro k2 (And.intro k3 (And.intro k4 k6))))
  have hqb : ((q.size : Int) != 64) = false := by rw [bne_eq_false_iff_eq]; omega
  clear h hp hfew hf k1 k2 k3 k4 k5 k6
  go_enter Tryz.func8, Tryz.ntmps8
  go_wp2_with (first | (go_at_call 25; refine (ready_ok d p bl bn pv n S ps life fuse acts _ H.out HP.out).mono ?_; rintro e w' ⟨rfl, rfl⟩) | (go_at_call 26; refine (has_yes d bl n a ha _ c1).mono ?_; rintro e w' ⟨rfl, rfl⟩) | fail)
  refine (act_ok p fuse acts HZ.out hf1 hf2 ha0 ha1 _ HP.out).mono ?_
  rintro e w1 ⟨rfl, hp1, hk1⟩
  have hz1 := hk1.size
  obtain ⟨q1, q2, q3, q4, q6⟩ := K.out
  have np : ∀ x ∈ F, x ≠ p := fun x hx e => K5.out (e ▸ hx)
  have h1 : LiveAt d p bl bn pv n S ps life w1 := H.out.keep (hk1.block d (q6 d q1) (by simp; exact np d q1)) (hk1.block bl (q6 bl q2) (by simp; exact np bl q2)) (hk1.block bn (q6 bn q3) (by simp; exact np bn q3))
    (fun g hg => hk1.block g (q6 g (q4 g hg)) (by simp; exact np g (q4 g hg)))
  have H1 := Lib.hid h1
  have HP1 := Lib.hid hp1
  have HK1 := Lib.hid hk1
  have Q4 := Lib.hid q4
  have Q6 := Lib.hid q6
  have NP := Lib.hid np
  clear h1 hp1 hk1 q4 q6 np c0 c1
  go_wp2_with fail
  refine (Mwrite_any d p bl bn pv n S ps life a q ha hq HF.out _ (by omega) H1.out).mono ?_
  rintro e w2 ⟨rfl, ⟨pv', h2, ho⟩, ⟨ws, hws, hk2⟩⟩
  have H2 := Lib.hid h2
  have HO := Lib.hid ho
  have HW := Lib.hid hws
  have HK2 := Lib.hid hk2
  clear h2 ho hws hk2
  go_wp2_with fail
  go_ret
  have hz2 := HK2.out.size
  have hin : ∀ x ∈ ws, x ∈ F := fun x hx => by
    rcases HW.out x hx with rfl | rfl | h
    · exact q1
    · exact q3
    · exact Q4.out x h
  refine ⟨rfl, F ++ pv'.ownBlock.toList, ⟨bl, bn, pv', H2.out, by simp [q1], by simp [q2], by simp [q3], fun g hg => by simp [hg], ?_, ?_⟩, ?_, ?_, ?_⟩
  · intro hm
    rcases List.mem_append.1 hm with hm | hm
    · exact K5.out hm
    · exact (H2.out.own p (Option.mem_toList.1 hm)).2.2.2 rfl
  · intro x hx
    rcases List.mem_append.1 hx with hx | hx
    · have := Q6.out x hx; omega
    · exact (H2.out.pnd.lt x (Option.mem_toList.1 hx)).2
  · exact HP1.out.keep (HK2.out.block p (by omega) (fun hm => K5.out (hin p hm)))
  · intro x hx
    rcases List.mem_append.1 hx with hx | hx
    · exact Or.inl hx
    · rcases HO.out x (Option.mem_toList.1 hx) with h | h
      · exact Or.inl (Q4.out x h)
      · right; omega
  · exact (HK1.out.mono (Nat.le_refl _) (fun k _ hk => by simp at hk; simp [hk])).trans (HK2.out.mono hz1 (fun k _ hk => by simp [hin k hk]))
end Go.Proofs.YtbljhodnpddpiaaGreatDoor
