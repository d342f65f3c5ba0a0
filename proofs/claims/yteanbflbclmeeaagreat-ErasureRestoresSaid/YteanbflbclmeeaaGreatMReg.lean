/- Regions that draw their order and whose callees make memory: every operation yields one value in all worlds of a class, and leaves the class whole. Texts of rows. -/
import Derived.Test.YteanbflbclmeeaaGreatMBase
namespace Go.Proofs.YteanbflbclmeeaaGreat
open Go Go.RowKit

/-- The worlds of a class. -/
structure Of (S : World → Prop) where
  w : World
  ok : S w
section
variable {P : Program}
theorem wp_region_S {id : Nat} {Q : Exit → Act → World → Prop} {a : Act} {w : World} {l : List Oper} (S : World → Prop) (hm : P.follows .mixedOrders = true) (hB : Region.lexB .any l.toArray = true) (h0 : S w.drew)
    (h : wpQuiet P l.toArray (fun w' => ∃ u : Of S, w' = u.w) (fun a' => ∀ w', (∃ u : Of S, w' = u.w) → Q .normal a' w') l a) : (Code.region id l.toArray true).wp P Q a w :=
  wp_region_quiet (C := fun w' => ∃ u : Of S, w' = u.w) hm hB ⟨⟨w.drew, h0⟩, rfl⟩ (by simpa using h)
theorem wp_region_S_last {id : Nat} {Q : Exit → Act → World → Prop} {a : Act} {w : World} {l : List Oper} {o : Oper} (S : World → Prop) (hmix : P.follows .mixedOrders = true) (hg : o.guard = none) (hdst : o.dst = none)
    (hB : Region.lexB .any (l ++ [Oper.mute o]).toArray = true) (hord : orderB .any (l ++ [o]).toArray = true) (hlast : lastB .any (l ++ [o]).toArray l.length = true) (h0 : S w.drew)
    (h : wpQuiet P (l ++ [Oper.mute o]).toArray (fun w' => ∃ u : Of S, w' = u.w) (fun a' => ∀ w', (∃ u : Of S, w' = u.w) → Oper.wp P o a' w' (fun a'' w'' => Q .normal a'' w'') Q) (l ++ [Oper.mute o]) a) :
    (Code.region id (l ++ [o]).toArray true).wp P Q a w := by
  simp only [Region.lexB, Bool.and_eq_true] at hB
  refine wp_region_any hmix ?_
  refine wpAny_of_quiet_last (C := fun w' => ∃ u : Of S, w' = u.w) (n := l.length) (o := o) (ops' := (l ++ [Oper.mute o]).toArray) (by simp) (by simp) hg hdst (by simp) (fun i hi => ?_) (by simp) hord hlast _ _ a _ (by simp) (by simp) ⟨⟨w.drew, h0⟩, rfl⟩ ?_
  · simp only [List.getElem?_toArray]
    rcases Nat.lt_or_ge i l.length with h1 | h1
    · rw [List.getElem?_append_left h1, List.getElem?_append_left h1]
    · rw [List.getElem?_eq_none (by simp; omega), List.getElem?_eq_none (by simp; omega)]
  · have := wpAnyQ_lex (C := fun w' => ∃ u : Of S, w' = u.w) (md := .any) hB.1 (l ++ [Oper.mute o]) 0 (Array.replicate (l ++ [Oper.mute o]).toArray.size false) a (by simp) (by simpa using hB.2) h
    simpa using this
theorem wp_region_S_end {id : Nat} {Q : Exit → Act → World → Prop} {a : Act} {w : World} {x : Oper} {L : List Oper} (S : World → Prop) (hmix : P.follows .mixedOrders = true) (hg : (lastL x L).guard = none) (hdst : (lastL x L).dst = none)
    (hB : Region.lexB .any (initL x L ++ [Oper.mute (lastL x L)]).toArray = true) (hord : orderB .any (x :: L).toArray = true) (hlast : lastB .any (x :: L).toArray L.length = true) (h0 : S w.drew)
    (h : wpQuiet P (initL x L ++ [Oper.mute (lastL x L)]).toArray (fun w' => ∃ u : Of S, w' = u.w) (fun a' => ∀ w', (∃ u : Of S, w' = u.w) → Oper.wp P (lastL x L) a' w' (fun a'' w'' => Q .normal a'' w'') Q) (initL x L ++ [Oper.mute (lastL x L)]) a) :
    (Code.region id (x :: L).toArray true).wp P Q a w := by
  have hl : L.length = (initL x L).length := by
    have := congrArg List.length (init_last L x)
    simpa using this
  rw [init_last L x] at hord hlast ⊢
  rw [hl] at hlast
  exact wp_region_S_last S hmix hg hdst hB hord hlast h0 h
end

/-- Each operation but the last one has one behind it that waits for it. -/
def heldB (md : Region.Mode) (ops : Array Oper) (n : Nat) : Bool :=
  (List.range n).all fun j => (List.range (n + 1)).any fun k => decide (j < k) && (match ops[k]? with
    | some o => o.after.any fun e => Region.binds md e && e.on == j
    | none => false)
theorem held_spec {md : Region.Mode} {ops : Array Oper} {n : Nat} (h : heldB md ops n = true) {j : Nat} (hj : j < n) : ∃ k o, j < k ∧ k ≤ n ∧ ops[k]? = some o ∧ ∃ e ∈ o.after, Region.binds md e = true ∧ e.on = j := by
  have h1 := List.all_eq_true.1 h j (List.mem_range.2 hj)
  obtain ⟨k, hk, h2⟩ := List.any_eq_true.1 h1
  rw [Bool.and_eq_true, decide_eq_true_eq] at h2
  obtain ⟨hjk, h3⟩ := h2
  have hkn := List.mem_range.1 hk
  cases ho : ops[k]? with
  | none => rw [ho] at h3; cases h3
  | some o =>
    rw [ho] at h3
    obtain ⟨e, he, hb⟩ := Array.any_eq_true'.1 h3
    simp only [Bool.and_eq_true, beq_iff_eq] at hb
    exact ⟨k, o, hjk, by omega, ho, e, he, hb.1, hb.2⟩
/-- What is done had all done that it waits for. -/
def Closed (md : Region.Mode) (ops : Array Oper) (listed : Array Bool) : Prop := ∀ j o, ops[j]? = some o → listed.getD j true = true → ∀ e ∈ o.after, Region.binds md e = true → listed.getD e.on false = true
theorem getD_set_true {l : Array Bool} {i j : Nat} (h : l.getD j false = true) : (l.setIfInBounds i true).getD j false = true := by
  by_cases hij : i = j
  · subst hij
    have hlt : i < l.size := by
      rcases Nat.lt_or_ge i l.size with h1 | h1
      · exact h1
      · obtain ⟨h2, _⟩ : ∃ h : i < l.size, l[i] = true := by simpa [Array.getD] using h
        exact h2
    simp [Array.getD, hlt]
  · rw [getD_set_ne false (fun e => hij e)]; exact h
theorem Closed.step {md : Region.Mode} {ops : Array Oper} {listed : Array Bool} (h : Closed md ops listed) {i : Nat} (hi : i ∈ Region.ready md ops listed) : Closed md ops (listed.setIfInBounds i true) := by
  intro j o ho hl e he hb
  refine getD_set_true ?_
  by_cases hij : i = j
  · subst hij
    obtain ⟨_, o', ho', hall⟩ := mem_ready.1 hi
    rw [ho] at ho'
    injection ho' with ho'
    subst ho'
    exact hall e he hb
  · rw [getD_set_ne true hij] at hl
    exact h j o ho hl e he hb
theorem ready_end {md : Region.Mode} {ops : Array Oper} {n : Nat} (hn : n + 1 = ops.size) (hl : heldB md ops n = true) {listed : Array Bool} (hs : listed.size = ops.size) (hc : Closed md ops listed) (hr : n ∈ Region.ready md ops listed) : Region.ready md ops (listed.setIfInBounds n true) = [] := by
  obtain ⟨_, o, ho, hall⟩ := mem_ready.1 hr
  have all : ∀ m j, n = j + 1 + m → listed.getD j false = true := by
    intro m
    induction m using Nat.strongRecOn with
    | _ m ih =>
      intro j hj
      obtain ⟨k, o', hjk, hkn, ho', e, he, hb, hon⟩ := held_spec hl (show j < n by omega)
      by_cases hk : k = n
      · subst hk
        rw [ho] at ho'
        injection ho' with ho'
        subst ho'
        rw [← hon]; exact hall e he hb
      · have h1 := ih (n - k - 1) (by omega) k (by omega)
        rw [← hon]
        refine hc k o' ho' ?_ e he hb
        simp only [Array.getD, show k < listed.size by omega, dite_true] at h1 ⊢
        exact h1
  cases hq : Region.ready md ops (listed.setIfInBounds n true) with
  | nil => rfl
  | cons j r =>
    have hj : j ∈ Region.ready md ops (listed.setIfInBounds n true) := by rw [hq]; exact List.mem_cons_self ..
    obtain ⟨h0, o', ho', _⟩ := mem_ready.1 hj
    have hlt : j < ops.size := (Array.getElem?_eq_some_iff.1 ho').1
    by_cases hjn : j = n
    · subst hjn
      simp [hs, hlt] at h0
    · have h1 := all (n - j - 1) j (by omega)
      rw [getD_set_ne true (fun e => hjn e.symm)] at h0
      simp only [Array.getD, show j < listed.size by omega, dite_true] at h0 h1
      rw [h0] at h1; cases h1
/-- An operation yields a value, and then K. -/
def endsIn (P : Program) (o : Oper) (a : Act) (w : World) (K : Act → World → Prop) : Prop :=
  (∃ v w'', (execOp a.eval o).run P w = .ok (.value v) w'' ∧ K (a.put o.dst v) w'') ∨
  (∃ f args, (execOp a.eval o).run P w = .ok (.enter f args) w ∧ Calls P f args w fun e w'' => ∃ v, e = .returned v ∧ K (a.put o.dst v) w'') ∨
  ∃ w'', (execOp a.eval o).run P w = .ok .skip w'' ∧ K (a.put o.dst undef) w''
theorem put_put (a : Act) (d : Option Tmp) (x y : Value) : (a.put d x).put d y = a.put d y := by
  cases d with
  | none => rfl
  | some d => simp [Act.put]
/-- The last operation of a region that draws, which waits for all others and yields a value (a builtin copy): one walk in the order of the text, then that operation. -/
theorem wpAny_of_quiet_tail {P : Program} {ops : Array Oper} {md : Region.Mode} {C : World → Prop} {n : Nat} {o : Oper} {ops' : Array Oper} {Q : Exit → Act → World → Prop} (hn : n + 1 = ops.size) (ho : ops[n]? = some o) (hg : o.guard = none)
    (hsame : ∀ (a : Act) (x : Value), execOp (a.put o.dst x).eval o = execOp a.eval o)
    (hs : ops'.size = ops.size) (hne : ∀ i, i ≠ n → ops'[i]? = ops[i]?) (hm : ops'[n]? = some (Oper.mute o)) (hord : orderB md ops = true) (hlast : heldB md ops n = true) :
    ∀ (fuel : Nat) (listed : Array Bool) (a : Act) (w : World), listed.size = ops.size → listed.getD n true = false → Closed md ops listed → C w →
      wpAnyQ P md ops' C (fun a' => ∀ w', C w' → endsIn P o a' w' (fun a'' w'' => Q .normal a'' w'')) fuel listed a → wpAny P md ops Q fuel listed a w := by
  have hafter : ∀ i : Nat, (ops'[i]?).map (·.after) = (ops[i]?).map (·.after) := fun i => by
    by_cases h : i = n
    · subst h; rw [hm, ho]; rfl
    · rw [hne i h]
  have hdd : ∀ i : Nat, (ops'[i]?).bind (·.dst) = (ops[i]?).bind (·.dst) := fun i => by
    by_cases h : i = n
    · subst h; rw [hm, ho]; rfl
    · rw [hne i h]
  have hrd : ∀ listed, Region.ready md ops' listed = Region.ready md ops listed := ready_same hs hafter
  intro fuel
  induction fuel with
  | zero =>
    intro listed a w hsz hun hcl hC h
    have h1 := h.1
    rw [hrd] at h1
    exact absurd h1 (ready_some hord hsz n (by omega) hun)
  | succ fuel ih =>
    intro listed a w hsz hun hcl hC h
    refine ⟨fun h0 => absurd h0 (ready_some hord hsz n (by omega) hun), fun i hi => ?_⟩
    have hq := h.2 i (by rw [hrd]; exact hi)
    by_cases hin : i = n
    · subst hin
      unfold qOp at hq
      simp only [hm] at hq
      have hw' : Region.wanted (Oper.mute o) (yielded ops' a.tmps) = true := by simp [Region.wanted, Oper.mute, hg]
      rw [if_pos hw'] at hq
      obtain ⟨v, _, hK⟩ := hq
      have hput : a.put (Oper.mute o).dst v = a.put o.dst v := rfl
      rw [hput] at hK
      have hr0 := ready_end hn hlast hsz hcl hi
      have hF : ∀ w', C w' → endsIn P o (a.put o.dst v) w' (fun a'' w'' => Q .normal a'' w'') := by
        cases fuel with
        | zero => exact hK.2
        | succ f => exact hK.1 (by rw [hrd]; exact hr0)
      have hL : ∀ (a'' : Act) (w'' : World), Q .normal a'' w'' → wpAny P md ops Q fuel (listed.setIfInBounds i true) a'' w'' := fun a'' w'' hQ => by
        cases fuel with
        | zero => exact ⟨hr0, hQ⟩
        | succ f => exact ⟨fun _ => hQ, fun k hk => by rw [hr0] at hk; cases hk⟩
      unfold wpOp
      simp only [ho]
      rw [if_pos (by simp [Region.wanted, hg])]
      refine Or.inl ?_
      unfold Oper.wp
      rcases hF w hC with ⟨u, w'', hrun, hQ⟩ | ⟨f, args, hrun, hcl⟩ | ⟨w'', hrun, hQ⟩
      · rw [hsame] at hrun
        rw [put_put] at hQ
        rw [hrun, Oper.upon_value]
        exact hL _ _ hQ
      · rw [hsame] at hrun
        rw [hrun, Oper.upon_enter]
        refine hcl.mono fun e w'' hh => ?_
        obtain ⟨u, rfl, hQ⟩ := hh
        rw [put_put] at hQ
        exact hL _ _ hQ
      · rw [hsame] at hrun
        rw [put_put] at hQ
        rw [hrun, Oper.upon_skip]
        exact hL _ _ hQ
    · have hw := wpOp_of_qOp (Q' := Q) (K' := wpAny P md ops Q fuel (listed.setIfInBounds i true)) hC (fun a' w' hC' h' => ih (listed.setIfInBounds i true) a' w' (by simp [hsz]) (by rw [getD_set_ne true hin]; exact hun) (hcl.step hi) hC' h') hq
      unfold wpOp at hw ⊢
      rw [hne i hin, yielded_same hdd] at hw
      exact hw
theorem wp_region_S_tail {P : Program} {id : Nat} {Q : Exit → Act → World → Prop} {a : Act} {w : World} {x : Oper} {L : List Oper} (S : World → Prop) (hmix : P.follows .mixedOrders = true) (hg : (lastL x L).guard = none)
    (hsame : ∀ (a : Act) (y : Value), execOp (a.put (lastL x L).dst y).eval (lastL x L) = execOp a.eval (lastL x L))
    (hB : Region.lexB .any (initL x L ++ [Oper.mute (lastL x L)]).toArray = true) (hord : orderB .any (x :: L).toArray = true) (hlast : heldB .any (x :: L).toArray L.length = true) (h0 : S w.drew)
    (h : wpQuiet P (initL x L ++ [Oper.mute (lastL x L)]).toArray (fun w' => ∃ u : Of S, w' = u.w) (fun a' => ∀ w', (∃ u : Of S, w' = u.w) → endsIn P (lastL x L) a' w' (fun a'' w'' => Q .normal a'' w'')) (initL x L ++ [Oper.mute (lastL x L)]) a) :
    (Code.region id (x :: L).toArray true).wp P Q a w := by
  have hl : L.length = (initL x L).length := by
    have := congrArg List.length (init_last L x)
    simpa using this
  obtain ⟨l, hle⟩ : ∃ l, l = initL x L := ⟨_, rfl⟩
  obtain ⟨o, hoe⟩ : ∃ o, o = lastL x L := ⟨_, rfl⟩
  have hxl : x :: L = l ++ [o] := by rw [init_last L x, hle, hoe]
  rw [hxl] at hord hlast ⊢
  rw [hl] at hlast
  rw [← hle] at hB h hlast
  rw [← hoe] at hB h hg hsame
  simp only [Region.lexB, Bool.and_eq_true] at hB
  refine wp_region_any hmix ?_
  refine wpAny_of_quiet_tail (C := fun w' => ∃ u : Of S, w' = u.w) (n := l.length) (o := o) (ops' := (l ++ [Oper.mute o]).toArray) (by simp) (by simp) hg hsame (by simp) (fun i hi => ?_) (by simp) hord hlast _ _ a _ (by simp) (by simp) (fun j o' ho' hl _ _ _ => by have hj := (Array.getElem?_eq_some_iff.1 ho').1; simp [Array.getD] at hl hj; omega) ⟨⟨w.drew, h0⟩, rfl⟩ ?_
  · simp only [List.getElem?_toArray]
    rcases Nat.lt_or_ge i l.length with h1 | h1
    · rw [List.getElem?_append_left h1, List.getElem?_append_left h1]
    · rw [List.getElem?_eq_none (by simp; omega), List.getElem?_eq_none (by simp; omega)]
  · have := wpAnyQ_lex (C := fun w' => ∃ u : Of S, w' = u.w) (md := .any) hB.1 (l ++ [Oper.mute o]) 0 (Array.replicate (l ++ [Oper.mute o]).toArray.size false) a (by simp) (by simpa using hB.2) h
    simpa using this
theorem eval_put (a : Act) (k n : Nat) (y : Value) (h : n ≠ k) : (a.put (some k) y).eval (.tmp n) = a.eval (.tmp n) := by
  cases a with
  | mk tmps defers => simp [Act.put, Act.eval, h.symm]
theorem copy_same {o : Oper} {d s k : Nat} {tys : Array TypeId} (ho : o.op = .call { callee := .builtin .copy, args := #[.tmp d, .tmp s], argTypes := tys }) (hk : o.dst = some k) (h1 : d ≠ k) (h2 : s ≠ k) (a : Act) (y : Value) : execOp (a.put o.dst y).eval o = execOp a.eval o := by
  rw [hk]
  unfold execOp
  simp only [ho, resolve, List.map_toArray, List.map_cons, List.map_nil, eval_put a k d y h1, eval_put a k s y h2]
theorem eval_put_ne (a : Act) (k : Nat) (y : Value) {x : Operand} (h : x ≠ .tmp k) : (a.put (some k) y).eval x = a.eval x := by
  cases x with
  | tmp n => exact eval_put a k n y (fun e => h (by rw [e]))
  | _ => rfl
theorem call_same {o : Oper} {f k : Nat} {xs : List Operand} {tys : Array TypeId} (ho : o.op = .call { callee := .value (.func f), args := xs.toArray, argTypes := tys }) (hk : o.dst = some k) (h : ∀ x ∈ xs, x ≠ .tmp k) (a : Act) (y : Value) : execOp (a.put o.dst y).eval o = execOp a.eval o := by
  rw [hk]
  unfold execOp
  simp only [ho, resolve, List.map_toArray, eval_put_ne a k y (x := .func f) (by intro e; cases e)]
  rw [List.map_congr_left (fun x hx => eval_put_ne a k y (h x hx))]
/-- The last operation is a call of a Go function. -/
theorem ends_call {P : Program} {w : World} {o : Oper} {a : Act} {K : Act → World → Prop} (f : FuncId) (args : Array Value) (hrun : (execOp a.eval o).run P w = .ok (.enter f args) w) {R : Ending → World → Prop} (hc : Calls P f args w R)
    (h : ∀ e w'', R e w'' → ∃ v, e = .returned v ∧ K (a.put o.dst v) w'') : endsIn P o a w K := .inr (.inl ⟨f, args, hrun, hc.mono h⟩)
/-- .. is a store. -/
theorem ends_store {P : Program} {w : World} {o : Oper} {a : Act} {K : Act → World → Prop} (w' : World) (hrun : (execOp a.eval o).run P w = .ok .skip w') (h : K (a.put o.dst undef) w') : endsIn P o a w K := .inr (.inr ⟨w', hrun, h⟩)
theorem store_same {o : Oper} (hk : o.dst = none) (a : Act) (y : Value) : execOp (a.put o.dst y).eval o = execOp a.eval o := by rw [hk]; rfl
/-- The run of a builtin copy of cells into the middle of a block that is known. -/
theorem ends_copy_row {P : Program} {w : World} {o : Oper} {a : Act} {K : Act → World → Prop} (d s : Operand) (dT sT : TypeId)
    (ho : o.op = .call { callee := .builtin .copy, args := #[d, s], argTypes := #[dT, sT] }) (elem : TypeId) (hu : P.underlying dT = some (.slice elem)) (hsz : (P.info? elem).map (·.size) = some 1)
    (b off dLen cap b2 o2 sLen cap2 n : Nat) (hd : a.eval d = .slice (some ⟨b, off, none⟩) dLen cap) (hs : a.eval s = .slice (some ⟨b2, o2, none⟩) sLen cap2) (hmin : n = Nat.min sLen dLen)
    (cs : List Value) (hn : cs.length = n) (hr : w.rangeAt b2 o2 cs) (h1 : ∀ v ∈ cs, v.oneCell' = true)
    (A B C : List Value) (T : TypeId) (hg : w.heap[b]? = some (.cells (A ++ (B ++ C)).toArray T (0, 0))) (hA : A.length = off) (hB : B.length = n)
    (h : ∀ w'', Hid (w''.heap[b]? = some (.cells (A ++ (cs ++ C)).toArray T (0, 0))) → Hid (Kept w.heap.size [b] w w'') → K (a.put o.dst (goInt n)) w'') : endsIn P o a w K := by
  subst hA
  have ht := there_of_list hg (o := A.length) (n := cs.length) (by simp; omega)
  have hrun := run_copy_cells (P := P) w dT sT o.type elem b A.length dLen cap ⟨b2, o2, none⟩ sLen cap2 cs hu hsz (by rw [hn]; exact hmin) (fun j v hv => by rw [Addr.add_mid]; exact hr j v hv) (fun j hj => (ht j hj).1) (fun j hj => (ht j hj).2) h1
  refine .inl ⟨goInt n, w.setCells b A.length cs, ?_, h _ (Lib.hid ?_) (Lib.hid (kept_setCells _ _ _ _))⟩
  · rw [hn] at hrun
    simp [execOp, ho, resolve, invoke, builtin, hd, hs, hrun, Result.andThen]
  · have := setCells_list cs A.length _ w hg
    rw [laid_mid' _ _ _ _ (by rw [hB, hn])] at this
    exact this
/-! Texts of rows. -/
@[irreducible] def txt (f : Nat → UInt8) (c : Nat) : ByteArray := ⟨(textOf f c).toArray⟩
theorem txt_eq (f : Nat → UInt8) (c : Nat) : txt f c = ⟨(textOf f c).toArray⟩ := by unfold txt; rfl
theorem txt_list (f : Nat → UInt8) (c : Nat) : (txt f c).data.toList = textOf f c := by unfold txt; simp
theorem txt_size (f : Nat → UInt8) (c : Nat) : (txt f c).size = c := by rw [← size_toList, txt_list, length_textOf]
theorem txt_at (f : Nat → UInt8) (c j : Nat) (hj : j < c) : strAt (txt f c) j = f j := by
  rw [strAt_eq, txt_list, List.getD]
  unfold textOf
  rw [List.getElem?_map, List.getElem?_range hj]; rfl
theorem textOf_congr {f h : Nat → UInt8} {c : Nat} (e : ∀ j, j < c → f j = h j) : textOf f c = textOf h c := by
  unfold textOf
  exact List.map_congr_left fun j hj => e j (List.mem_range.1 hj)
theorem txt_congr {f h : Nat → UInt8} {c : Nat} (e : ∀ j, j < c → f j = h j) : txt f c = txt h c := by rw [txt_eq, txt_eq, textOf_congr e]
theorem scaled_txt (f h : Nat → UInt8) (c : Nat) (t : UInt8) : scaled (txt f c) (txt h c) t = txt (fun j => f j ^^^ tm t (h j)) c := by
  have e1 : scaled (txt f c) (txt h c) t = ⟨(textOf (scF (txt f c) (txt h c) t) c).toArray⟩ := by
    unfold scaled; rw [txt_size]
  have e2 : textOf (scF (txt f c) (txt h c) t) c = textOf (fun j => f j ^^^ tm t (h j)) c := textOf_congr fun j hj => by rw [scF_eq, txt_at _ _ _ hj, txt_at _ _ _ hj, xr_eq]
  rw [e1, e2]; exact (txt_eq _ _).symm
theorem u8v_len (l : List UInt8) : (l.map u8v).length = l.length := List.length_map ..
/-- A table whose row has become another one. -/
theorem Tab.parts {g : Nat} {M : Mat} {r c : Nat} {w : World} (h : Tab g M r c w) {i : Nat} (hi : i < r) : w.heap[g]? = some (.cells ((ahead M r c i).map u8v ++ ((textOf (M i) c).map u8v ++ (behind M r c i).map u8v)).toArray 5 (0, 0)) := by
  unfold Tab at h
  rw [flat_row M hi, List.map_append, List.map_append] at h; exact h
theorem Tab.of_parts {g : Nat} {M : Mat} {r c : Nat} {w : World} {i : Nat} (hi : i < r) (f : Nat → UInt8) (h : w.heap[g]? = some (.cells ((ahead M r c i).map u8v ++ ((textOf f c).map u8v ++ (behind M r c i).map u8v)).toArray 5 (0, 0))) : Tab g (setRow i f M) r c w := by
  unfold Tab
  rw [flat_split M f hi, List.map_append, List.map_append]; exact h
/-- The state within a call: a box with a table's parts, the table, and all else as it was. -/
structure BoxS (B g r c N : Nat) (M : Mat) (w0 v : World) : Prop where
  box : v.heap[B]? = some (.cells (tabRow g r c N).toArray 104 (0, 0))
  tab : Tab g M r c v
  old : Kept w0.heap.size [g] w0 v
  ne : B ≠ g
theorem BoxS.drew {B g r c N : Nat} {M : Mat} {w0 v : World} (h : BoxS B g r c N M w0 v) : BoxS B g r c N M w0 v.drew := ⟨h.box, h.tab, h.old.drew, h.ne⟩
theorem BoxS.below {B g r c N : Nat} {M : Mat} {w0 v v' : World} (h : BoxS B g r c N M w0 v) (hb : Below v.heap.size v v') : BoxS B g r c N M w0 v' :=
  ⟨(hb.block B (lt_of_heap h.box)).trans h.box, h.tab.below hb h.tab.lt, h.old.trans (Kept.of_below (hb.mono h.old.size)), h.ne⟩
/-- .. behind a change of one row. -/
theorem BoxS.change {B g r c N : Nat} {M M' : Mat} {w0 v v' : World} (h : BoxS B g r c N M w0 v) (ht : Tab g M' r c v') (hk : Kept v.heap.size [g] v v') : BoxS B g r c N M' w0 v' :=
  ⟨(hk.block B (lt_of_heap h.box) (by simp; exact h.ne)).trans h.box, ht, h.old.trans (hk.mono h.old.size (fun _ _ h => h)), h.ne⟩
theorem BoxS.rowy {B g r c N : Nat} {M : Mat} {w0 v : World} (h : BoxS B g r c N M w0 v) : RowyAt Tryz.prog 104 v (.pointer (some ⟨B, 0, none⟩)) :=
  rowyAt_mk (A := []) (B := tabRow g r c N) (C := []) (by simpa using h.box) rfl (by kernel_rfl) Tryz.underlying104 rfl
theorem BoxS.c0 {B g r c N : Nat} {M : Mat} {w0 v : World} (h : BoxS B g r c N M w0 v) : v.cell? ⟨B, 0, none⟩ = some (.int .i64 r) := by rw [cell_of_list h.box]; rfl
theorem BoxS.c1 {B g r c N : Nat} {M : Mat} {w0 v : World} (h : BoxS B g r c N M w0 v) : v.cell? ⟨B, 1, none⟩ = some (.int .i64 c) := by rw [cell_of_list h.box]; rfl
theorem BoxS.c2 {B g r c N : Nat} {M : Mat} {w0 v : World} (h : BoxS B g r c N M w0 v) : v.cell? ⟨B, 2, none⟩ = some (.slice (some ⟨g, 0, none⟩) N N) := by rw [cell_of_list h.box]; rfl
theorem BoxS.mid {B g r c N : Nat} {M : Mat} {w0 v : World} (h : BoxS B g r c N M w0 v) : midOf Tryz.prog 104 v (.pointer (some ⟨B, 0, none⟩)) = tabRow g r c N :=
  midOf_mk (A := []) (B := tabRow g r c N) (C := []) (by simpa using h.box) rfl (by kernel_rfl)
theorem BoxS.of_alloc {g r c N : Nat} {M : Mat} {w : World} (h : Tab g M r c w) : BoxS w.heap.size g r c N M w (w.alloc (.cells (tabRow g r c N).toArray 104)) :=
  ⟨heap_alloc_new _ _, h.keep (heap_alloc_old _ _ h.lt), (Kept.refl _ _ _).alloc (Nat.le_refl _) _, by have := h.lt; omega⟩
/-- A row's text. -/
theorem run_row_text {g M r c} {w : World} (h : Tab g M r c w) {i A cap : Nat} (hi : i < r) (hA : i * c = A) :
    (convert 60 9 (.slice (some ⟨g, A, none⟩) c cap)).run Tryz.prog w = .ok (.string (txt (M i) c)) w := by
  have hr := h.src.row hi
  rw [Nat.zero_add, hA] at hr
  rw [txt_eq]
  exact run_bytes_string w 60 9 5 g A c cap (textOf (M i) c) (length_textOf _ _) Tryz.underlying60 Tryz.underlying5 Tryz.underlying9 hr
/-- The row of an own table. -/
theorem trow_any (g r c N i A : Nat) (hA : i * c = A) (hi : A + c ≤ N) (hN : N ≤ 1000000) (hc0 : 1 ≤ c) (w : World) :
    Calls Tryz.prog 60 #[.agg #[.int .i64 r, .int .i64 c, .slice (some ⟨g, 0, none⟩) N N], .int .i64 i] w fun e w' => e = .returned (.slice (some ⟨g, A, none⟩) c (N - A)) ∧ Below w.heap.size w w' := by
  have h1 : i ≤ A := by rw [← hA]; exact Nat.le_mul_of_pos_right i hc0
  have := row_any r c g 0 N N i A hA hi (by omega) hc0 (by omega) (by omega) w
  rw [Nat.zero_add] at this; exact this
theorem row_fits {r c N i A : Nat} (hN : r * c = N) (hA : i * c = A) (hi : i < r) : A + c ≤ N := by
  rw [← hN, ← hA, ← Nat.succ_mul]; exact Nat.mul_le_mul_right c hi
/-- A text copied into a row of a table. -/
theorem wpList_copy_row {P : Program} {w : World} {ops : Array Oper} {rest : List Oper} {o : Oper} {a : Act} {Q : Exit → Act → World → Prop} (hgd : o.guard = none) (d s : Operand) (dT sT : TypeId)
    (ho : o.op = .call { callee := .builtin .copy, args := #[d, s], argTypes := #[dT, sT] }) (elem : TypeId) (hu : P.underlying dT = some (.slice elem)) (hsz : (P.info? elem).map (·.size) = some 1)
    (b off n cap : Nat) (t : ByteArray) (hd : a.eval d = .slice (some ⟨b, off, none⟩) n cap) (hs : a.eval s = .string t) (ht : t.size = n)
    (A B C : List Value) (T : TypeId) (hg : w.heap[b]? = some (.cells (A ++ (B ++ C)).toArray T (0, 0))) (hA : A.length = off) (hB : B.length = n)
    (h : ∀ w', Hid (w'.heap[b]? = some (.cells (A ++ (t.data.toList.map u8v ++ C)).toArray T (0, 0))) → Hid (Kept w.heap.size [b] w w') → Hid (w'.heap.size = w.heap.size) → wpList P ops Q rest (a.put o.dst (goInt n)) w') : wpList P ops Q (o :: rest) a w := by
  have hm : Nat.min t.size n = n := by rw [ht]; exact Nat.min_self n
  refine wpList_copy_str hgd d s dT sT ho elem hu hsz b off n cap t hd hs (by rw [hm]; exact there_of_list hg (by simp; omega)) ?_
  rw [hm]
  have he : strCells t n = t.data.toList.map u8v := by rw [strCells, List.take_of_length_le (by rw [size_toList]; omega)]
  rw [he]
  subst hA
  refine h _ (Lib.hid ?_) (Lib.hid (kept_setCells _ _ _ _)) (Lib.hid (setCells_size _ _ _))
  have := setCells_list (t.data.toList.map u8v) A.length _ w hg
  rw [laid_mid' _ _ _ _ (by rw [List.length_map, size_toList, ht, hB])] at this
  exact this
/-- A cell of a table set. -/
theorem Tab.set {g : Nat} {M : Mat} {r c : Nat} {w : World} (h : Tab g M r c w) {i j : Nat} (hi : i < r) (hj : j < c) (x : UInt8) : Tab g (setM i j x M) r c (w.setCell ⟨g, i * c + j, none⟩ (.int .u8 x.toNat)) := by
  unfold Tab at h ⊢
  rw [set_list h (i * c + j) (.int .u8 x.toNat), ← flat_set M x hi hj, List.map_set]; rfl
theorem BoxS.set {B g r c N : Nat} {M : Mat} {w0 v : World} (h : BoxS B g r c N M w0 v) {i j : Nat} (hi : i < r) (hj : j < c) (x : UInt8) : BoxS B g r c N (setM i j x M) w0 (v.setCell ⟨g, i * c + j, none⟩ (.int .u8 x.toNat)) :=
  h.change (h.tab.set hi hj x) ((Kept.refl _ _ _).setCell (p := ⟨g, i * c + j, none⟩) (by simp) _)
end Go.Proofs.YteanbflbclmeeaaGreat
