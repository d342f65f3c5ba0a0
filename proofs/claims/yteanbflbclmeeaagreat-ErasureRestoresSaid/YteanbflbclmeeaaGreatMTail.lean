/- A region that draws its order and stores at its end, where some operations that nothing waits for may come up behind the store. -/
import Derived.Test.YteanbflbclmeeaaGreatMReg
namespace Go.Proofs.YteanbflbclmeeaaGreat
open Go Go.RowKit

/-- One value whatever the world, or none. -/
def PureOp (P : Program) (o : Oper) : Prop := ∀ ρ : Operand → Value, (∃ v, ∀ w, (execOp ρ o).run P w = .ok (.value v) w) ∨ (∀ w, ∃ e w2, (execOp ρ o).run P w = .halt e w2)
theorem pure_extract (P : Program) {o : Oper} (t : Operand) (i : Nat) (ho : o.op = .extract t i) : PureOp P o := by
  intro ρ
  unfold execOp
  simp only [ho]
  cases h : ρ t with
  | tuple vs =>
    cases h2 : vs[i]? with
    | none => exact .inr fun w => by simp [Instr.extract, h2]
    | some x => exact .inl ⟨x, fun w => by simp [Instr.extract, h2]⟩
  | _ => exact .inr fun w => by simp [Instr.extract]
structure FreeOp (P : Program) (o oj : Oper) : Prop where
  guard : oj.guard = none
  pure : PureOp P oj
  same : ∀ (a : Act) (x : Value), execOp (a.put oj.dst x).eval o = execOp a.eval o
def heldF (free : Nat → Bool) (md : Region.Mode) (ops : Array Oper) (n : Nat) : Bool :=
  (List.range n).all fun j => free j || (List.range (n + 1)).any fun k => decide (j < k) && !free k && (match ops[k]? with
    | some o => o.after.any fun e => Region.binds md e && e.on == j
    | none => false)
theorem heldF_spec {free : Nat → Bool} {md : Region.Mode} {ops : Array Oper} {n : Nat} (h : heldF free md ops n = true) {j : Nat} (hj : j < n) (hf : free j = false) : ∃ k o, j < k ∧ k ≤ n ∧ free k = false ∧ ops[k]? = some o ∧ ∃ e ∈ o.after, Region.binds md e = true ∧ e.on = j := by
  have h1 := List.all_eq_true.1 h j (List.mem_range.2 hj)
  rw [hf, Bool.false_or] at h1
  obtain ⟨k, hk, h2⟩ := List.any_eq_true.1 h1
  rw [Bool.and_eq_true, Bool.and_eq_true, decide_eq_true_eq, Bool.not_eq_true'] at h2
  obtain ⟨⟨hjk, hfk⟩, h3⟩ := h2
  have hkn := List.mem_range.1 hk
  cases ho : ops[k]? with
  | none => rw [ho] at h3; cases h3
  | some o =>
    rw [ho] at h3
    obtain ⟨e, he, hb⟩ := Array.any_eq_true'.1 h3
    simp only [Bool.and_eq_true, beq_iff_eq] at hb
    exact ⟨k, o, hjk, by omega, hfk, ho, e, he, hb.1, hb.2⟩
theorem all_listed {free : Nat → Bool} {md : Region.Mode} {ops : Array Oper} {n : Nat} (hn : n + 1 = ops.size) (hl : heldF free md ops n = true) {listed : Array Bool} (hs : listed.size = ops.size) (hc : Closed md ops listed) (hr : n ∈ Region.ready md ops listed) :
    ∀ j, j < n → free j = false → listed.getD j false = true := by
  obtain ⟨_, o, ho, hall⟩ := mem_ready.1 hr
  have all : ∀ m j, n = j + 1 + m → free j = false → listed.getD j false = true := by
    intro m
    induction m using Nat.strongRecOn with
    | _ m ih =>
      intro j hj hf
      obtain ⟨k, o', hjk, hkn, hfk, ho', e, he, hb, hon⟩ := heldF_spec hl (show j < n by omega) hf
      by_cases hk : k = n
      · subst hk
        rw [ho] at ho'
        injection ho' with ho'
        subst ho'
        rw [← hon]; exact hall e he hb
      · have h1 := ih (n - k - 1) (by omega) k (by omega) hfk
        rw [← hon]
        refine hc k o' ho' ?_ e he hb
        simp only [Array.getD, show k < listed.size by omega, dite_true] at h1 ⊢
        exact h1
  exact fun j hj hf => all (n - j - 1) j (by omega) hf
section
variable {P : Program} {ops : Array Oper} {md : Region.Mode} {C : World → Prop} {n : Nat} {o : Oper} {ops' : Array Oper} {Q : Exit → Act → World → Prop}
/-- The end: the store runs, and then Q. -/
def skipsIn (P : Program) (o : Oper) (a : Act) (w : World) (K : Act → World → Prop) : Prop := ∃ w'', (execOp a.eval o).run P w = .ok .skip w'' ∧ K a w''
/-- Behind the store: only free operations are left. -/
theorem wpAny_rest (free : Nat → Bool) (hne : ∀ i, i ≠ n → ops'[i]? = ops[i]?) (hrd : ∀ listed, Region.ready md ops' listed = Region.ready md ops listed)
    (hfree : ∀ j oj, free j = true → ops[j]? = some oj → FreeOp P o oj) {w' w'' : World} (hC : C w') :
    ∀ (fuel : Nat) (listed : Array Bool) (a : Act), listed.size = ops.size → listed.getD n false = true → (∀ j, j < ops.size → listed.getD j true = false → free j = true) →
      (execOp a.eval o).run P w' = .ok .skip w'' →
      wpAnyQ P md ops' C (fun a' => ∀ w', C w' → skipsIn P o a' w' (fun a'' w'' => Q .normal a'' w'')) fuel listed a → wpAny P md ops Q fuel listed a w'' := by
  have hend : ∀ a : Act, (execOp a.eval o).run P w' = .ok .skip w'' → (∀ w', C w' → skipsIn P o a w' (fun a'' w'' => Q .normal a'' w'')) → Q .normal a w'' := fun a hrun h => by
    obtain ⟨w2, hrun2, hQ⟩ := h w' hC
    rw [hrun] at hrun2
    injection hrun2 with _ e
    rw [e]; exact hQ
  intro fuel
  induction fuel with
  | zero =>
    intro listed a hsz hln hfr hrun h
    exact ⟨by rw [← hrd]; exact h.1, hend a hrun h.2⟩
  | succ fuel ih =>
    intro listed a hsz hln hfr hrun h
    refine ⟨fun h0 => hend a hrun (h.1 (by rw [hrd]; exact h0)), fun i hi => ?_⟩
    have hq := h.2 i (by rw [hrd]; exact hi)
    obtain ⟨hun, oi, hoi, _⟩ := mem_ready.1 hi
    have hlt : i < ops.size := (Array.getElem?_eq_some_iff.1 hoi).1
    have hin : i ≠ n := by
      rintro rfl
      simp only [Array.getD, show i < listed.size by omega, dite_true] at hun hln
      rw [hun] at hln; cases hln
    have hF := hfree i oi (hfr i hlt hun) hoi
    unfold qOp at hq
    rw [hne i hin, hoi] at hq
    simp only [] at hq
    have hw' : Region.wanted oi (yielded ops' a.tmps) = true := by simp [Region.wanted, hF.guard]
    rw [if_pos hw'] at hq
    obtain ⟨v, hv, hK⟩ := hq
    have hv1 := hv w' hC
    unfold Oper.quietAt at hv1
    unfold wpOp
    rw [hoi]
    simp only []
    rw [if_pos (by simp [Region.wanted, hF.guard])]
    refine Or.inl ?_
    unfold Oper.wp
    rcases hF.pure a.eval with ⟨u, hu⟩ | hu
    · rw [hu w'] at hv1
      obtain ⟨_, rfl⟩ := hv1
      rw [hu w'', Oper.upon_value]
      refine ih _ _ (by simp [hsz]) (getD_set_true hln) (fun j hj hun2 => ?_) (by rw [hF.same]; exact hrun) hK
      by_cases hij : i = j
      · subst hij; exact hfr i hlt hun
      · rw [getD_set_ne true hij] at hun2; exact hfr j hj hun2
    · obtain ⟨e, w2, he⟩ := hu w'
      rw [he] at hv1; exact hv1.elim
theorem wpAny_of_quiet_store (free : Nat → Bool) (hn : n + 1 = ops.size) (ho : ops[n]? = some o) (hg : o.guard = none) (hd : o.dst = none)
    (hs : ops'.size = ops.size) (hne : ∀ i, i ≠ n → ops'[i]? = ops[i]?) (hm : ops'[n]? = some (Oper.mute o)) (hord : orderB md ops = true) (hlast : heldF free md ops n = true) (hfree : ∀ j oj, free j = true → ops[j]? = some oj → FreeOp P o oj) :
    ∀ (fuel : Nat) (listed : Array Bool) (a : Act) (w : World), listed.size = ops.size → listed.getD n true = false → Closed md ops listed → C w →
      wpAnyQ P md ops' C (fun a' => ∀ w', C w' → skipsIn P o a' w' (fun a'' w'' => Q .normal a'' w'')) fuel listed a → wpAny P md ops Q fuel listed a w := by
  have hafter : ∀ i : Nat, (ops'[i]?).map (·.after) = (ops[i]?).map (·.after) := fun i => by
    by_cases h : i = n
    · subst h; rw [hm, ho]; rfl
    · rw [hne i h]
  have hdd : ∀ i : Nat, (ops'[i]?).bind (·.dst) = (ops[i]?).bind (·.dst) := fun i => by
    by_cases h : i = n
    · subst h; rw [hm, ho]; rfl
    · rw [hne i h]
  have hrd : ∀ listed, Region.ready md ops' listed = Region.ready md ops listed := ready_same hs hafter
  intro fuel
  induction fuel with
  | zero =>
    intro listed a w hsz hun hcl hC h
    have h1 := h.1
    rw [hrd] at h1
    exact absurd h1 (ready_some hord hsz n (by omega) hun)
  | succ fuel ih =>
    intro listed a w hsz hun hcl hC h
    refine ⟨fun h0 => absurd h0 (ready_some hord hsz n (by omega) hun), fun i hi => ?_⟩
    have hq := h.2 i (by rw [hrd]; exact hi)
    by_cases hin : i = n
    · subst hin
      unfold qOp at hq
      simp only [hm] at hq
      have hw' : Region.wanted (Oper.mute o) (yielded ops' a.tmps) = true := by simp [Region.wanted, Oper.mute, hg]
      rw [if_pos hw'] at hq
      obtain ⟨v, _, hK⟩ := hq
      have hput : ∀ x, a.put o.dst x = a := fun x => by rw [hd]; rfl
      have hput2 : a.put (Oper.mute o).dst v = a := hput v
      rw [hput2] at hK
      have hal := all_listed hn hlast hsz hcl hi
      have hlfree : ∀ j, j < ops.size → (listed.setIfInBounds i true).getD j true = false → free j = true := fun j hj hu => by
        by_cases hij : i = j
        · subst hij; simp [Array.getD, hsz, hj] at hu
        · rw [getD_set_ne true hij] at hu
          cases hf : free j with
          | true => rfl
          | false =>
            have h1 := hal j (by omega) hf
            simp only [Array.getD, show j < listed.size by omega, dite_true] at h1 hu
            rw [hu] at h1; cases h1
      have hlt : i < listed.size := by omega
      -- what the store does here
      have hst : ∃ w'', (execOp a.eval o).run P w = .ok .skip w'' := by
        have aux : ∀ (fuel : Nat) (listed : Array Bool) (a : Act), listed.size = ops.size → listed.getD i false = true → (∀ j, j < ops.size → listed.getD j true = false → free j = true) →
            wpAnyQ P md ops' C (fun a' => ∀ w', C w' → skipsIn P o a' w' (fun a'' w'' => Q .normal a'' w'')) fuel listed a → ∃ w'', (execOp a.eval o).run P w = .ok .skip w'' := by
          intro fuel
          induction fuel with
          | zero => intro listed a _ _ _ h; obtain ⟨w2, h2, _⟩ := h.2 w hC; exact ⟨w2, h2⟩
          | succ fuel ih2 =>
            intro listed a hsz hln hfr h
            cases hr : Region.ready md ops' listed with
            | nil => obtain ⟨w2, h2, _⟩ := h.1 hr w hC; exact ⟨w2, h2⟩
            | cons j r =>
              have hj : j ∈ Region.ready md ops' listed := by rw [hr]; exact List.mem_cons_self ..
              have hq := h.2 j hj
              rw [hrd] at hj
              obtain ⟨hunj, oj, hoj, _⟩ := mem_ready.1 hj
              have hjl : j < ops.size := (Array.getElem?_eq_some_iff.1 hoj).1
              have hjn : j ≠ i := by
                rintro rfl
                simp only [Array.getD, show j < listed.size by omega, dite_true] at hunj hln
                rw [hunj] at hln; cases hln
              have hF := hfree j oj (hfr j hjl hunj) hoj
              unfold qOp at hq
              rw [hne j hjn, hoj] at hq
              simp only [] at hq
              rw [if_pos (by simp [Region.wanted, hF.guard])] at hq
              obtain ⟨v, _, hK⟩ := hq
              obtain ⟨w2, h2⟩ := ih2 (listed.setIfInBounds j true) (a.put oj.dst v) (by simp [hsz]) (getD_set_true hln) (fun k hk hu => by
                by_cases hjk : j = k
                · subst hjk; exact hfr j hjl hunj
                · rw [getD_set_ne true hjk] at hu; exact hfr k hk hu) hK
              rw [hF.same] at h2
              exact ⟨w2, h2⟩
        exact aux fuel (listed.setIfInBounds i true) a (by simp [hsz]) (by simp [Array.getD, hlt]) hlfree hK
      obtain ⟨w'', hrun⟩ := hst
      unfold wpOp
      simp only [ho]
      rw [if_pos (by simp [Region.wanted, hg])]
      refine Or.inl ?_
      unfold Oper.wp
      rw [hrun, Oper.upon_skip, hput]
      exact wpAny_rest free hne hrd hfree hC fuel _ a (by simp [hsz]) (by simp [Array.getD, hlt]) hlfree hrun hK
    · have hw := wpOp_of_qOp (Q' := Q) (K' := wpAny P md ops Q fuel (listed.setIfInBounds i true)) hC (fun a' w' hC' h' => ih (listed.setIfInBounds i true) a' w' (by simp [hsz]) (by rw [getD_set_ne true hin]; exact hun) (hcl.step hi) hC' h') hq
      unfold wpOp at hw ⊢
      rw [hne i hin, yielded_same hdd] at hw
      exact hw
end
theorem wp_region_S_store {P : Program} {id : Nat} {Q : Exit → Act → World → Prop} {a : Act} {w : World} {x : Oper} {L : List Oper} (S : World → Prop) (k : Nat) (hmix : P.follows .mixedOrders = true) (hg : (lastL x L).guard = none) (hd : (lastL x L).dst = none)
    (hB : Region.lexB .any (initL x L ++ [Oper.mute (lastL x L)]).toArray = true) (hord : orderB .any (x :: L).toArray = true) (hlast : heldF (fun j => j == k) .any (x :: L).toArray L.length = true)
    (oj : Oper) (hoj : (x :: L)[k]? = some oj) (hF : FreeOp P (lastL x L) oj) (h0 : S w.drew)
    (h : wpQuiet P (initL x L ++ [Oper.mute (lastL x L)]).toArray (fun w' => ∃ u : Of S, w' = u.w) (fun a' => ∀ w', (∃ u : Of S, w' = u.w) → skipsIn P (lastL x L) a' w' (fun a'' w'' => Q .normal a'' w'')) (initL x L ++ [Oper.mute (lastL x L)]) a) :
    (Code.region id (x :: L).toArray true).wp P Q a w := by
  have hl : L.length = (initL x L).length := by
    have := congrArg List.length (init_last L x)
    simpa using this
  obtain ⟨l, hle⟩ : ∃ l, l = initL x L := ⟨_, rfl⟩
  obtain ⟨o, hoe⟩ : ∃ o, o = lastL x L := ⟨_, rfl⟩
  have hxl : x :: L = l ++ [o] := by rw [init_last L x, hle, hoe]
  rw [hxl] at hord hlast hoj ⊢
  rw [hl] at hlast
  rw [← hle] at hB h hlast
  rw [← hoe] at hB h hg hd hF
  simp only [Region.lexB, Bool.and_eq_true] at hB
  refine wp_region_any hmix ?_
  refine wpAny_of_quiet_store (C := fun w' => ∃ u : Of S, w' = u.w) (n := l.length) (o := o) (ops' := (l ++ [Oper.mute o]).toArray) (fun j => j == k) (by simp) (by simp) hg hd (by simp) (fun i hi => ?_) (by simp) hord hlast (fun j o2 hj ho2 => ?_) _ _ a _ (by simp) (by simp) (fun j o' ho' hl _ _ _ => by have hj := (Array.getElem?_eq_some_iff.1 ho').1; simp [Array.getD] at hl hj; omega) ⟨⟨w.drew, h0⟩, rfl⟩ ?_
  · simp only [List.getElem?_toArray]
    rcases Nat.lt_or_ge i l.length with h1 | h1
    · rw [List.getElem?_append_left h1, List.getElem?_append_left h1]
    · rw [List.getElem?_eq_none (by simp; omega), List.getElem?_eq_none (by simp; omega)]
  · rw [eq_of_beq hj, List.getElem?_toArray, hoj] at ho2
    injection ho2 with ho2
    rw [← ho2]; exact hF
  · have := wpAnyQ_lex (C := fun w' => ∃ u : Of S, w' = u.w) (md := .any) hB.1 (l ++ [Oper.mute o]) 0 (Array.replicate (l ++ [Oper.mute o]).toArray.size false) a (by simp) (by simpa using hB.2) h
    simpa using this
/-- A store does not read the slot in which another operation ends. -/
theorem store_free {o : Oper} {p x k : Nat} {ty : TypeId} (ho : o.op = .store ty (.tmp p) (.tmp x)) (h1 : p ≠ k) (h2 : x ≠ k) (a : Act) (y : Value) : execOp (a.put (some k) y).eval o = execOp a.eval o := by
  unfold execOp
  simp only [ho, eval_put a k p y h1, eval_put a k x y h2]
end Go.Proofs.YteanbflbclmeeaaGreat
