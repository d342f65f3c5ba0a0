/- A region that draws its order, whose operations only read and whose callees only read (they may draw), but for the last one, which waits for all others (a store): one walk in the order of the text, then that operation. No program is imported here. -/
import Derived.Deep.QuietTactic
import Derived.BigQuiet
namespace Go.Proofs.YteanbflbclmeeaaGreat
open Go

section
variable {P : Program} {ops : Array Oper} {md : Region.Mode} {C : World → Prop}

/-- The region with another operation in the last one's place, which only says true. -/
def Oper.mute (o : Oper) : Oper := { o with op := .move (.const (.bool true)) }
theorem getD_false_true {listed : Array Bool} {i : Nat} (hi : i < listed.size) (h : ¬ listed.getD i false = true) : listed.getD i true = false := by
  simp [hi] at h ⊢; exact h
/-- Every operation waits for earlier ones alone. -/
def orderB (md : Region.Mode) (ops : Array Oper) : Bool :=
  (List.range ops.size).all fun j => match ops[j]? with
    | some o => o.after.all fun e => !Region.binds md e || decide (e.on < j)
    | none => true
/-- The last operation waits for each other one. -/
def lastB (md : Region.Mode) (ops : Array Oper) (n : Nat) : Bool :=
  (List.range n).all fun j => match ops[n]? with
    | some o => o.after.any fun e => Region.binds md e && e.on == j
    | none => false
theorem order_spec (h : orderB md ops = true) {j : Nat} {o : Oper} (hj : ops[j]? = some o) : ∀ e ∈ o.after, Region.binds md e = true → e.on < j := by
  intro e he hb
  have hlt : j < ops.size := (Array.getElem?_eq_some_iff.1 hj).1
  have h1 := List.all_eq_true.1 h j (List.mem_range.2 hlt)
  rw [hj] at h1
  have h2 := Array.all_eq_true_iff_forall_mem.1 h1 e he
  simpa [hb] using h2
theorem last_spec {n : Nat} (h : lastB md ops n = true) {o : Oper} (hn : ops[n]? = some o) {j : Nat} (hj : j < n) : ∃ e ∈ o.after, Region.binds md e = true ∧ e.on = j := by
  have h1 := List.all_eq_true.1 h j (List.mem_range.2 hj)
  rw [hn] at h1
  obtain ⟨e, he, hb⟩ := Array.any_eq_true'.1 h1
  simp only [Bool.and_eq_true, beq_iff_eq] at hb
  exact ⟨e, he, hb.1, hb.2⟩
theorem ready_some (ho : orderB md ops = true) {listed : Array Bool} (hs : listed.size = ops.size) : ∀ j, j < ops.size → listed.getD j true = false → Region.ready md ops listed ≠ [] := by
  intro j
  induction j using Nat.strongRecOn with
  | _ j ih =>
    intro hj hun hr
    by_cases h : ∀ e ∈ (ops[j]).after, Region.binds md e = true → listed.getD e.on false = true
    · have : j ∈ Region.ready md ops listed := mem_ready.2 ⟨hun, ops[j], Array.getElem?_eq_getElem hj, h⟩
      rw [hr] at this; cases this
    · simp only [Classical.not_forall] at h
      obtain ⟨e, he, hb, hl⟩ := h
      have hlt := order_spec ho (Array.getElem?_eq_getElem hj) e he hb
      exact ih e.on hlt (by omega) (getD_false_true (by omega) hl) hr
theorem ready_last {n : Nat} (hn : n + 1 = ops.size) (hl : lastB md ops n = true) {listed : Array Bool} (hs : listed.size = ops.size) (hr : n ∈ Region.ready md ops listed) : Region.ready md ops (listed.setIfInBounds n true) = [] := by
  obtain ⟨_, o, ho, hall⟩ := mem_ready.1 hr
  cases hq : Region.ready md ops (listed.setIfInBounds n true) with
  | nil => rfl
  | cons j r =>
    have hj : j ∈ Region.ready md ops (listed.setIfInBounds n true) := by rw [hq]; exact List.mem_cons_self ..
    obtain ⟨h0, o', ho', _⟩ := mem_ready.1 hj
    have hlt : j < ops.size := (Array.getElem?_eq_some_iff.1 ho').1
    by_cases hjn : j = n
    · subst hjn
      simp [hs, hlt] at h0
    · obtain ⟨e, he, hb, hon⟩ := last_spec hl ho (show j < n by omega)
      have h1 := hall e he hb
      rw [hon] at h1
      rw [getD_set_ne true (fun e => hjn e.symm)] at h0
      simp [hs, hlt] at h0 h1
      rw [h0] at h1; cases h1
theorem ready_same {ops' : Array Oper} (hs : ops'.size = ops.size) (ha : ∀ i : Nat, (ops'[i]?).map (·.after) = (ops[i]?).map (·.after)) (listed : Array Bool) : Region.ready md ops' listed = Region.ready md ops listed := by
  unfold Region.ready
  rw [hs]
  refine List.filter_congr fun i _ => ?_
  have := ha i
  cases h : ops'[i]? <;> cases h2 : ops[i]? <;> simp_all
theorem yielded_same {ops' : Array Oper} (hd : ∀ i : Nat, (ops'[i]?).bind (·.dst) = (ops[i]?).bind (·.dst)) (tmps : Array Value) : yielded ops' tmps = yielded ops tmps := by
  funext j
  unfold yielded
  rw [hd]
/-- The region's orders, from those of the region with the last operation muted. -/
theorem wpAny_of_quiet_last {n : Nat} {o : Oper} {ops' : Array Oper} {Q : Exit → Act → World → Prop} (hn : n + 1 = ops.size) (ho : ops[n]? = some o) (hg : o.guard = none) (hdst : o.dst = none)
    (hs : ops'.size = ops.size) (hne : ∀ i, i ≠ n → ops'[i]? = ops[i]?) (hm : ops'[n]? = some (Oper.mute o)) (hord : orderB md ops = true) (hlast : lastB md ops n = true) :
    ∀ (fuel : Nat) (listed : Array Bool) (a : Act) (w : World), listed.size = ops.size → listed.getD n true = false → C w →
      wpAnyQ P md ops' C (fun a' => ∀ w', C w' → Oper.wp P o a' w' (fun a'' w'' => Q .normal a'' w'') Q) fuel listed a → wpAny P md ops Q fuel listed a w := by
  have hafter : ∀ i : Nat, (ops'[i]?).map (·.after) = (ops[i]?).map (·.after) := fun i => by
    by_cases h : i = n
    · subst h; rw [hm, ho]; rfl
    · rw [hne i h]
  have hdd : ∀ i : Nat, (ops'[i]?).bind (·.dst) = (ops[i]?).bind (·.dst) := fun i => by
    by_cases h : i = n
    · subst h; rw [hm, ho]; rfl
    · rw [hne i h]
  have hrd : ∀ listed, Region.ready md ops' listed = Region.ready md ops listed := ready_same hs hafter
  intro fuel
  induction fuel with
  | zero =>
    intro listed a w hsz hun hC h
    have h1 := h.1
    rw [hrd] at h1
    exact absurd h1 (ready_some hord hsz n (by omega) hun)
  | succ fuel ih =>
    intro listed a w hsz hun hC h
    refine ⟨fun h0 => absurd h0 (ready_some hord hsz n (by omega) hun), fun i hi => ?_⟩
    have hq := h.2 i (by rw [hrd]; exact hi)
    by_cases hin : i = n
    · subst hin
      unfold qOp at hq
      simp only [hm] at hq
      have hw' : Region.wanted (Oper.mute o) (yielded ops' a.tmps) = true := by simp [Region.wanted, Oper.mute, hg]
      rw [if_pos hw'] at hq
      obtain ⟨v, _, hK⟩ := hq
      have hput : a.put (Oper.mute o).dst v = a := by simp [Oper.mute, hdst, Act.put]
      rw [hput] at hK
      have hr0 := ready_last hn hlast hsz hi
      have hR : ∀ w', C w' → Oper.wp P o a w' (fun a'' w'' => Q .normal a'' w'') Q := by
        cases fuel with
        | zero => exact hK.2
        | succ f => exact hK.1 (by rw [hrd]; exact hr0)
      unfold wpOp
      simp only [ho]
      rw [if_pos (by simp [Region.wanted, hg])]
      refine Or.inl (Oper.wp_mono (fun a'' w'' hQ => ?_) (hR w hC))
      cases fuel with
      | zero => exact ⟨hr0, hQ⟩
      | succ f => exact ⟨fun _ => hQ, fun k hk => by rw [hr0] at hk; cases hk⟩
    · have hw := wpOp_of_qOp (Q' := Q) (K' := wpAny P md ops Q fuel (listed.setIfInBounds i true)) hC (fun a' w' hC' h' => ih (listed.setIfInBounds i true) a' w' (by simp [hsz]) (by rw [getD_set_ne true hin]; exact hun) hC' h') hq
      unfold wpOp at hw ⊢
      rw [hne i hin, yielded_same hdd] at hw
      exact hw
/-- One walk in the order of the text serves every order; then the last operation, in whatever world the draws have left. -/
theorem wp_region_quiet_last {id : Nat} {Q : Exit → Act → World → Prop} {a : Act} {w : World} {l : List Oper} {o : Oper} (hmix : P.follows .mixedOrders = true) (hg : o.guard = none) (hdst : o.dst = none)
    (hB : Region.lexB .any (l ++ [Oper.mute o]).toArray = true) (hord : orderB .any (l ++ [o]).toArray = true) (hlast : lastB .any (l ++ [o]).toArray l.length = true)
    (h : wpQuiet P (l ++ [Oper.mute o]).toArray (fun w' => ∃ n, w' = w.drewN n) (fun a' => ∀ w', (∃ n, w' = w.drewN n) → Oper.wp P o a' w' (fun a'' w'' => Q .normal a'' w'') Q) (l ++ [Oper.mute o]) a) :
    (Code.region id (l ++ [o]).toArray true).wp P Q a w := by
  simp only [Region.lexB, Bool.and_eq_true] at hB
  refine wp_region_any hmix ?_
  have hsz : (l ++ [o]).toArray.size = l.length + 1 := by simp
  refine wpAny_of_quiet_last (C := fun w' => ∃ n, w' = w.drewN n) (n := l.length) (o := o) (ops' := (l ++ [Oper.mute o]).toArray) (by simp) (by simp) hg hdst (by simp) (fun i hi => ?_) (by simp) hord hlast _ _ a _ (by simp) (by simp) ⟨1, rfl⟩ ?_
  · simp only [List.getElem?_toArray]
    rcases Nat.lt_or_ge i l.length with h1 | h1
    · rw [List.getElem?_append_left h1, List.getElem?_append_left h1]
    · rw [List.getElem?_eq_none (by simp; omega), List.getElem?_eq_none (by simp; omega)]
  · have := wpAnyQ_lex (C := fun w' => ∃ n, w' = w.drewN n) (md := .any) hB.1 (l ++ [Oper.mute o]) 0 (Array.replicate (l ++ [Oper.mute o]).toArray.size false) a (by simp) (by simpa using hB.2) h
    simpa using this
/-- A row but for its last element; the last element. -/
def initL : Oper → List Oper → List Oper
  | _, [] => []
  | x, y :: r => x :: initL y r
def lastL : Oper → List Oper → Oper
  | x, [] => x
  | _, y :: r => lastL y r
theorem init_last : ∀ (L : List Oper) (x : Oper), x :: L = initL x L ++ [lastL x L]
  | [], _ => rfl
  | y :: r, x => by rw [initL, lastL, List.cons_append, ← init_last r y]
theorem wp_region_quiet_end {id : Nat} {Q : Exit → Act → World → Prop} {a : Act} {w : World} {x : Oper} {L : List Oper} (hmix : P.follows .mixedOrders = true) (hg : (lastL x L).guard = none) (hdst : (lastL x L).dst = none)
    (hB : Region.lexB .any (initL x L ++ [Oper.mute (lastL x L)]).toArray = true) (hord : orderB .any (x :: L).toArray = true) (hlast : lastB .any (x :: L).toArray L.length = true)
    (h : wpQuiet P (initL x L ++ [Oper.mute (lastL x L)]).toArray (fun w' => ∃ n, w' = w.drewN n) (fun a' => ∀ w', (∃ n, w' = w.drewN n) → Oper.wp P (lastL x L) a' w' (fun a'' w'' => Q .normal a'' w'') Q) (initL x L ++ [Oper.mute (lastL x L)]) a) :
    (Code.region id (x :: L).toArray true).wp P Q a w := by
  have hl : L.length = (initL x L).length := by
    have := congrArg List.length (init_last L x)
    simpa using this
  rw [init_last L x] at hord hlast ⊢
  rw [hl] at hlast
  exact wp_region_quiet_last hmix hg hdst hB hord hlast h
end
end Go.Proofs.YteanbflbclmeeaaGreat
