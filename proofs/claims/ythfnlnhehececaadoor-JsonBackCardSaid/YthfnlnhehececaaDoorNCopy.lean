/- A name or a value is copied behind the others: the regions that draw their order. -/
import Derived.Test.YthfnlnhehececaaDoorNPush
import Derived.Test.YthfnlnhehececaaDoorNRt
namespace Go.Proofs.YthfnlnhehececaaDoor
open Go Go.RowKit

/-- What is laid down for a value that is being copied. -/
structure Sc (jb lo : Nat) (k : Int) (t : List UInt8) (nv kv : Value) (ns : List (List UInt8)) (ks : List Js.J) (w : World) : Prop where
  jb_ : w.heap[jb]? = some (.cells (jrow k t nv kv).toArray 25 (0, 0))
  acc : ∃ vs iv, Acc w lo w.heap.size nv kv ns ks vs iv
  lo_ : lo ≤ w.heap.size
  jl : jb < lo
section
variable {ρ : Operand → Value} {o : Oper} {w : World}
theorem run_mv (x : Operand) (v : Value) (ho : o.op = .move x) (hx : ρ x = v) : (execOp ρ o).run Tryd.prog w = .ok (.value v) w := by
  unfold execOp
  simp [ho, hx, go_sem]
theorem run_lj (x : Operand) (g : Nat) (cs : List Value) (ho : o.op = .load 25 x) (hx : ρ x = .pointer (some ⟨g, 0, none⟩)) (hg : w.heap[g]? = some (.cells cs.toArray 25 (0, 0))) (hl : cs.length = 4) : (execOp ρ o).run Tryd.prog w = .ok (.value (.agg cs.toArray)) w := by
  unfold execOp
  simp only [ho, hx, Instr.loadAt, Instr.sureAddr, Sem.run_bind, Sem.run_pure, Result.andThen_ok, run_loadVar_mid w g 0 25 cs _ (range_of_list hg) Tryd.underlying25 rfl (by rw [hl]; kernel_rfl)]
end
def copyNameOps : Array Oper := #[
  { dst := some 21, op := .fieldAddr 25 (.tmp 3) 2, type := 0, pos := "right.go:77", after := #[], guard := none },
  { dst := some 22, op := .load 22 (.tmp 21), type := 22, pos := "right.go:77", after := #[{ on := 0, ground := .data }], guard := none },
  { dst := some 23, op := .move (.tmp 5), type := 9, pos := "right.go:77", after := #[], guard := none },
  { dst := some 24, op := .call { callee := .value (.func 43), args := #[.tmp 23], argTypes := #[9] }, type := 9, pos := "right.go:77", after := #[{ on := 2, ground := .data }], guard := none },
  { dst := some 25, op := .buildSlice 22 1 #[(0, .tmp 24)], type := 22, pos := "right.go:77", after := #[{ on := 3, ground := .data }], guard := none },
  { dst := some 26, op := .call { callee := .builtin .append, args := #[.tmp 22, .tmp 25], argTypes := #[22, 22] }, type := 22, pos := "right.go:77", after := #[{ on := 1, ground := .data }, { on := 4, ground := .data }, { on := 3, ground := .chain }], guard := none },
  { dst := some 27, op := .fieldAddr 25 (.tmp 3) 2, type := 0, pos := "right.go:77", after := #[{ on := 0, ground := .phase }, { on := 1, ground := .phase }, { on := 2, ground := .phase }, { on := 3, ground := .phase }, { on := 4, ground := .phase }, { on := 5, ground := .phase }], guard := none },
  { dst := none, op := .store 22 (.tmp 27) (.tmp 26), type := 0, pos := "right.go:77", after := #[{ on := 6, ground := .data }, { on := 5, ground := .data }, { on := 5, ground := .chain }, { on := 0, ground := .phase }, { on := 1, ground := .phase }, { on := 2, ground := .phase }, { on := 3, ground := .phase }, { on := 4, ground := .phase }, { on := 5, ground := .phase }], guard := none }]
section
variable (a0 : Act) (w0 : World) (jb lo : Nat) (k : Int) (t : List UInt8) (nv kv : Value) (ns : List (List UInt8)) (vs : List Value) (x : List UInt8)
structure CA (d0 d1 d2 d3 d4 : Bool) (a : Act) (w : World) (nb : Nat) : Prop where
  df : a.defers = []
  sz_ : a.tmps.size = 45
  pres : ∀ i, i < 21 ∨ 28 ≤ i → a.tmps.getD i undef = a0.tmps.getD i undef
  s0 : d0 = true → a.tmps.getD 21 undef = .pointer (some ⟨jb, 2, none⟩)
  s1 : d1 = true → a.tmps.getD 22 undef = nv
  s2 : d2 = true → a.tmps.getD 23 undef = .string (bs x)
  s3 : d3 = true → a.tmps.getD 24 undef = .string (bs x)
  s4 : d4 = true → a.tmps.getD 25 undef = .slice (some ⟨nb, 0, none⟩) 1 1 ∧ w.heap[nb]? = some (.cells ([Value.string (bs x)]).toArray 9 (0, 0))
  d43 : d4 = true → d3 = true
  d10 : d1 = true → d0 = true
  d32 : d3 = true → d2 = true
  fr : Below w0.heap.size w0 w
structure CB (d6 d7 : Bool) (a : Act) (w : World) (gn cn : Nat) : Prop where
  df : a.defers = []
  sz_ : a.tmps.size = 45
  pres : ∀ i, i < 21 ∨ 28 ≤ i → a.tmps.getD i undef = a0.tmps.getD i undef
  s5 : a.tmps.getD 26 undef = .slice (some ⟨gn, 0, none⟩) (ns.length + 1) cn
  row : w.ownsRow lo 9 1 (.slice (some ⟨gn, 0, none⟩) (ns.length + 1) cn) (ns.length + 1) (ns.map strV ++ [strV x])
  wh : nv.ownBlock = some gn ∨ w0.heap.size ≤ gn
  s6 : d6 = true → a.tmps.getD 27 undef = .pointer (some ⟨jb, 2, none⟩)
  hjb : w.heap[jb]? = some (.cells (jrow k t (if d7 then .slice (some ⟨gn, 0, none⟩) (ns.length + 1) cn else nv) kv).toArray 25 (0, 0))
  fr : Kept w0.heap.size (jb :: nv.ownBlock.toList) w0 w
end
set_option maxHeartbeats 4000000 in
theorem copy_name (jb lo : Nat) (k : Int) (t : List UInt8) (nv kv : Value) (ns : List (List UInt8)) (ks : List Js.J) (Q : Exit → Act → World → Prop) (id : Nat) (a0 : Act) (w0 : World)
    (hst : Sc jb lo k t nv kv ns ks w0) (hns : ns.length ≤ 8000) (hd : a0.defers = []) (hsz : a0.tmps.size = 45) (ht3 : a0.tmps.getD 3 undef = .pointer (some ⟨jb, 0, none⟩))
    (x : List UInt8) (hx : x.length ≤ 140737488355328) (ht5 : a0.tmps.getD 5 undef = .string (bs x))
    (hok : ∀ a w' r', a.defers = [] → a.tmps.size = 45 → (∀ i, i < 21 ∨ 28 ≤ i → a.tmps.getD i undef = a0.tmps.getD i undef) → Sc jb lo k t r' kv (ns ++ [x]) ks w' → Kept lo [jb] w0 w' → Q .normal a w') :
    (Code.region id copyNameOps true).wp Tryd.prog Q a0 w0 := by
  obtain ⟨hjb, ⟨vs, iv, acc⟩, hlo, hjl⟩ := hst
  have einv : ∀ args w, (callFunc 43 args).run Tryd.prog w = .ok (.enter 43 args) w := enters_of Tryd.func43 (by kernel_rfl) rfl
  refine wp_region_inv (by kernel_rfl) (by kernel_rfl) (fun D a' w' => (D 5 = false ∧ D 6 = false ∧ D 7 = false ∧ ∃ nb, CA a0 w0 jb nv x (D 0) (D 1) (D 2) (D 3) (D 4) a' w' nb) ∨
    ((D 0 = true ∧ D 1 = true ∧ D 2 = true ∧ D 3 = true ∧ D 4 = true ∧ D 5 = true) ∧ ∃ gn cn, CB a0 w0 jb lo k t nv kv ns x (D 6) (D 7) a' w' gn cn)) ?_ ?_ ?_
  · exact Or.inl ⟨rfl, rfl, rfl, 0, { df := hd, sz_ := hsz, pres := fun _ _ => rfl, s0 := (fun e => (nomatch e)), s1 := (fun e => (nomatch e)), s2 := (fun e => (nomatch e)), s3 := (fun e => (nomatch e)), s4 := (fun e => (nomatch e)), d43 := (fun e => (nomatch e)), d10 := (fun e => (nomatch e)), d32 := (fun e => (nomatch e)), fr := (Below.refl _ _).drew }⟩
  · intro D a' w' i o hI hoi hDi hdep
    have hi : i < 8 := (Array.getElem?_eq_some_iff.1 hoi).1
    rcases hI with ⟨h5, h6, h7, nb, h⟩ | ⟨⟨g0, g1, g2, g3, g4, g5⟩, gn, cn, h⟩
    · have hbs := h.fr.size
      have hjb' : w'.heap[jb]? = some (.cells (jrow k t nv kv).toArray 25 (0, 0)) := (h.fr.block jb (by omega)).trans hjb
      have ht3' : a'.tmps.getD 3 undef = .pointer (some ⟨jb, 0, none⟩) := (h.pres 3 (Or.inl (by omega))).trans ht3
      by_cases e0 : i = 0
      · subst e0
        obtain rfl : o = { dst := some 21, op := .fieldAddr 25 (.tmp 3) 2, type := 0, pos := "right.go:77", after := #[], guard := none } := (Option.some.inj hoi).symm
        refine wpOp_run hoi rfl _ (run_fa2 (.tmp 3) jb rfl ht3') ?_
        exact Or.inl ⟨h5, h6, h7, nb, { df := (by rw [put_defers]; exact h.df), sz_ := (by rw [put_size]; exact h.sz_), pres := fun q hq => (by rw [get_other _ _ (by omega)]; exact h.pres q hq), s0 := fun _ => (by rw [get_same _ _ (by rw [h.sz_]; omega)]), s1 := fun e => (by rw [get_other _ _ (by omega)]; exact h.s1 e), s2 := fun e => (by rw [get_other _ _ (by omega)]; exact h.s2 e), s3 := fun e => (by rw [get_other _ _ (by omega)]; exact h.s3 e), s4 := fun e => (by rw [get_other _ _ (by omega)]; exact h.s4 e), d43 := h.d43, d10 := fun _ => rfl, d32 := h.d32, fr := h.fr }⟩
      by_cases e1 : i = 1
      · subst e1
        obtain rfl : o = { dst := some 22, op := .load 22 (.tmp 21), type := 22, pos := "right.go:77", after := #[{ on := 0, ground := .data }], guard := none } := (Option.some.inj hoi).symm
        have d0 : D 0 = true := hdep { on := 0, ground := .data } (by simp) rfl
        refine wpOp_run hoi rfl _ (run_ld 22 (.tmp 21) jb 2 nv (by intro w; kernel_rfl) rfl (h.s0 d0) (by rw [cell_of_list hjb']; rfl)) ?_
        exact Or.inl ⟨h5, h6, h7, nb, { df := (by rw [put_defers]; exact h.df), sz_ := (by rw [put_size]; exact h.sz_), pres := fun q hq => (by rw [get_other _ _ (by omega)]; exact h.pres q hq), s0 := fun e => (by rw [get_other _ _ (by omega)]; exact h.s0 e), s1 := fun _ => (by rw [get_same _ _ (by rw [h.sz_]; omega)]), s2 := fun e => (by rw [get_other _ _ (by omega)]; exact h.s2 e), s3 := fun e => (by rw [get_other _ _ (by omega)]; exact h.s3 e), s4 := fun e => (by rw [get_other _ _ (by omega)]; exact h.s4 e), d43 := h.d43, d10 := fun _ => d0, d32 := h.d32, fr := h.fr }⟩
      by_cases e2 : i = 2
      · subst e2
        obtain rfl : o = { dst := some 23, op := .move (.tmp 5), type := 9, pos := "right.go:77", after := #[], guard := none } := (Option.some.inj hoi).symm
        refine wpOp_run hoi rfl _ (run_mv (.tmp 5) (.string (bs x)) rfl ((h.pres 5 (Or.inl (by omega))).trans ht5)) ?_
        exact Or.inl ⟨h5, h6, h7, nb, { df := (by rw [put_defers]; exact h.df), sz_ := (by rw [put_size]; exact h.sz_), pres := fun q hq => (by rw [get_other _ _ (by omega)]; exact h.pres q hq), s0 := fun e => (by rw [get_other _ _ (by omega)]; exact h.s0 e), s1 := fun e => (by rw [get_other _ _ (by omega)]; exact h.s1 e), s2 := fun _ => (by rw [get_same _ _ (by rw [h.sz_]; omega)]), s3 := fun e => (by rw [get_other _ _ (by omega)]; exact h.s3 e), s4 := fun e => (by rw [get_other _ _ (by omega)]; exact h.s4 e), d43 := h.d43, d10 := h.d10, d32 := fun _ => rfl, fr := h.fr }⟩
      by_cases e3 : i = 3
      · subst e3
        obtain rfl : o = { dst := some 24, op := .call { callee := .value (.func 43), args := #[.tmp 23], argTypes := #[9] }, type := 9, pos := "right.go:77", after := #[{ on := 2, ground := .data }], guard := none } := (Option.some.inj hoi).symm
        have d2 : D 2 = true := hdep { on := 2, ground := .data } (by simp) rfl
        have n4 : D 4 = false := by
          cases hd4 : D 4 with
          | false => rfl
          | true => have := h.d43 hd4; rw [hDi] at this; cases this
        refine wpOp_call hoi rfl 43 _ (run_cl 9 43 (.tmp 23) _ einv rfl (h.s2 d2) rfl) ?_
        refine (clone_any x (by omega) w').mono fun e w2 he => ?_
        obtain ⟨rfl, hb2⟩ := he
        exact Or.inl ⟨_, rfl, Or.inl ⟨h5, h6, h7, nb, { df := (by rw [put_defers]; exact h.df), sz_ := (by rw [put_size]; exact h.sz_), pres := fun q hq => (by rw [get_other _ _ (by omega)]; exact h.pres q hq), s0 := fun e => (by rw [get_other _ _ (by omega)]; exact h.s0 e), s1 := fun e => (by rw [get_other _ _ (by omega)]; exact h.s1 e), s2 := fun e => (by rw [get_other _ _ (by omega)]; exact h.s2 e), s3 := fun _ => (by rw [get_same _ _ (by rw [h.sz_]; omega)]), s4 := fun e => (by have e2 : D 4 = true := e; rw [n4] at e2; cases e2), d43 := fun _ => rfl, d10 := h.d10, d32 := fun _ => d2, fr := h.fr.trans (hb2.mono hbs) }⟩⟩
      by_cases e4 : i = 4
      · subst e4
        obtain rfl : o = { dst := some 25, op := .buildSlice 22 1 #[(0, .tmp 24)], type := 22, pos := "right.go:77", after := #[{ on := 3, ground := .data }], guard := none } := (Option.some.inj hoi).symm
        have d3 : D 3 = true := hdep { on := 3, ground := .data } (by simp) rfl
        have e3v := h.s3 d3
        have hcells : ((a'.eval (.tmp 24)).cells) = [Value.string (bs x)].toArray := by rw [eval_tmp, e3v]; rfl
        have hrun := run_bs2 (o := { dst := some 25, op := .buildSlice 22 1 #[(0, .tmp 24)], type := 22, pos := "right.go:77", after := #[{ on := 3, ground := .data }], guard := none }) (ρ := a'.eval) (w := w') (.tmp 24) rfl (by rw [hcells]; rfl)
        rw [hcells] at hrun
        refine wpOp_run hoi rfl _ hrun ?_
        have hal : Below w'.heap.size w' (w'.alloc (.cells [Value.string (bs x)].toArray 9)) := (Below.refl _ _).alloc (Nat.le_refl _) _
        exact Or.inl ⟨h5, h6, h7, w'.heap.size, { df := (by rw [put_defers]; exact h.df), sz_ := (by rw [put_size]; exact h.sz_), pres := fun q hq => (by rw [get_other _ _ (by omega)]; exact h.pres q hq), s0 := fun e => (by rw [get_other _ _ (by omega)]; exact h.s0 e), s1 := fun e => (by rw [get_other _ _ (by omega)]; exact h.s1 e), s2 := fun e => (by rw [get_other _ _ (by omega)]; exact h.s2 e), s3 := fun e => (by rw [get_other _ _ (by omega)]; exact h.s3 e), s4 := fun _ => ⟨(by rw [get_same _ _ (by rw [h.sz_]; omega)]), heap_alloc_new _ _⟩, d43 := fun _ => d3, d10 := h.d10, d32 := h.d32, fr := h.fr.trans (hal.mono hbs) }⟩
      by_cases e5 : i = 5
      · subst e5
        obtain rfl : o = { dst := some 26, op := .call { callee := .builtin .append, args := #[.tmp 22, .tmp 25], argTypes := #[22, 22] }, type := 22, pos := "right.go:77", after := #[{ on := 1, ground := .data }, { on := 4, ground := .data }, { on := 3, ground := .chain }], guard := none } := (Option.some.inj hoi).symm
        have d1 : D 1 = true := hdep { on := 1, ground := .data } (by simp) rfl
        have d4 : D 4 = true := hdep { on := 4, ground := .data } (by simp) rfl
        have d3 : D 3 = true := h.d43 d4
        have d0 : D 0 = true := h.d10 d1
        have d2 : D 2 = true := h.d32 d3
        obtain ⟨e4v, hnb⟩ := h.s4 d4
        have hok' : w'.ownsRow lo 9 1 nv ns.length (ns.map strV) := ownsRow_frame acc.hn fun g hg => h.fr.block g (by have := acc.hnb g hg; omega)
        obtain ⟨gn, cn, w2, hrun, hrow, hgr, hwh⟩ := run_ap2 (o := { dst := some 26, op := .call { callee := .builtin .append, args := #[.tmp 22, .tmp 25], argTypes := #[22, 22] }, type := 22, pos := "right.go:77", after := #[{ on := 1, ground := .data }, { on := 4, ground := .data }, { on := 3, ground := .chain }], guard := none }) (ρ := a'.eval) (.tmp 22) (.tmp 25) lo nv ns.length (ns.map strV) ⟨nb, 0, none⟩ 1 [Value.string (bs x)] rfl (h.s1 d1) hok' e4v rfl (news_row hnb) (by intro u hu; rw [List.mem_singleton.1 hu]; rfl) (by omega) (by omega)
        refine wpOp_run hoi rfl _ hrun ?_
        have blk : ∀ g, g < w'.heap.size → nv.ownBlock ≠ some g → w2.heap[g]? = w'.heap[g]? := fun g hg hne => hgr.block g hg (fun e => hne e.symm)
        have hjk : nv.ownBlock ≠ some jb := fun e => by have := acc.hnb jb e; omega
        have wh2 : nv.ownBlock = some gn ∨ w0.heap.size ≤ gn := by
          rcases hwh with e | e
          · exact Or.inl e
          · exact Or.inr (by omega)
        refine Or.inr ⟨⟨d0, d1, d2, d3, d4, rfl⟩, gn, cn, ?_⟩
        show CB a0 w0 jb lo k t nv kv ns x (D 6) (D 7) _ w2 gn cn
        rw [h6, h7]
        exact { df := (by rw [put_defers]; exact h.df), sz_ := (by rw [put_size]; exact h.sz_), pres := fun q hq => (by rw [get_other _ _ (by omega)]; exact h.pres q hq), s5 := (by rw [get_same _ _ (by rw [h.sz_]; omega)]), row := hrow, wh := wh2, s6 := fun e => (nomatch e), hjb := (blk jb (lt_of_heap hjb') hjk).trans hjb', fr := (Kept.of_below h.fr).trans ⟨hgr.os, hgr.tape, hgr.output, hgr.size, fun g hg hn => blk g (by omega) (fun e => hn (by simp [e]))⟩ }
      · exfalso
        have : D 5 = true := by
          have h7' : i = 6 ∨ i = 7 := by omega
          rcases h7' with rfl | rfl
          · obtain rfl : o = { dst := some 27, op := .fieldAddr 25 (.tmp 3) 2, type := 0, pos := "right.go:77", after := #[{ on := 0, ground := .phase }, { on := 1, ground := .phase }, { on := 2, ground := .phase }, { on := 3, ground := .phase }, { on := 4, ground := .phase }, { on := 5, ground := .phase }], guard := none } := (Option.some.inj hoi).symm
            exact hdep { on := 5, ground := .phase } (by simp) rfl
          · obtain rfl : o = { dst := none, op := .store 22 (.tmp 27) (.tmp 26), type := 0, pos := "right.go:77", after := #[{ on := 6, ground := .data }, { on := 5, ground := .data }, { on := 5, ground := .chain }, { on := 0, ground := .phase }, { on := 1, ground := .phase }, { on := 2, ground := .phase }, { on := 3, ground := .phase }, { on := 4, ground := .phase }, { on := 5, ground := .phase }], guard := none } := (Option.some.inj hoi).symm
            exact hdep { on := 5, ground := .phase } (by simp) rfl
        rw [h5] at this
        cases this
    · have hge : 6 ≤ i := by
        rcases Nat.lt_or_ge i 6 with hlt | hge
        · exfalso
          have : D i = true := by
            have : i = 0 ∨ i = 1 ∨ i = 2 ∨ i = 3 ∨ i = 4 ∨ i = 5 := by omega
            rcases this with rfl | rfl | rfl | rfl | rfl | rfl <;> assumption
          rw [hDi] at this
          cases this
        · exact hge
      have ht3' : a'.tmps.getD 3 undef = .pointer (some ⟨jb, 0, none⟩) := (h.pres 3 (Or.inl (by omega))).trans ht3
      have hgj : gn ≠ jb := fun e => by
        rcases h.wh with e2 | e2
        · have := acc.hnb gn e2; omega
        · omega
      by_cases e6 : i = 6
      · subst e6
        obtain rfl : o = { dst := some 27, op := .fieldAddr 25 (.tmp 3) 2, type := 0, pos := "right.go:77", after := #[{ on := 0, ground := .phase }, { on := 1, ground := .phase }, { on := 2, ground := .phase }, { on := 3, ground := .phase }, { on := 4, ground := .phase }, { on := 5, ground := .phase }], guard := none } := (Option.some.inj hoi).symm
        refine wpOp_run hoi rfl _ (run_fa2 (.tmp 3) jb rfl ht3') ?_
        exact Or.inr ⟨⟨g0, g1, g2, g3, g4, g5⟩, gn, cn, { df := (by rw [put_defers]; exact h.df), sz_ := (by rw [put_size]; exact h.sz_), pres := fun q hq => (by rw [get_other _ _ (by omega)]; exact h.pres q hq), s5 := (by rw [get_other _ _ (by omega)]; exact h.s5), row := h.row, wh := h.wh, s6 := fun _ => (by rw [get_same _ _ (by rw [h.sz_]; omega)]), hjb := h.hjb, fr := h.fr }⟩
      · obtain rfl : i = 7 := by omega
        obtain rfl : o = { dst := none, op := .store 22 (.tmp 27) (.tmp 26), type := 0, pos := "right.go:77", after := #[{ on := 6, ground := .data }, { on := 5, ground := .data }, { on := 5, ground := .chain }, { on := 0, ground := .phase }, { on := 1, ground := .phase }, { on := 2, ground := .phase }, { on := 3, ground := .phase }, { on := 4, ground := .phase }, { on := 5, ground := .phase }], guard := none } := (Option.some.inj hoi).symm
        have d6 : D 6 = true := hdep { on := 6, ground := .data } (by simp) rfl
        have hjb2 := h.hjb
        rw [hDi] at hjb2
        simp only [Bool.false_eq_true, if_false] at hjb2
        refine wpOp_skip hoi rfl rfl (run_st2 (.tmp 27) (.tmp 26) jb 2 (some ⟨gn, 0, none⟩) (ns.length + 1) cn nv rfl (h.s6 d6) h.s5 (by rw [cell_of_list hjb2]; rfl) (free_of_list hjb2 2)) ?_
        have blk : ∀ g, g ≠ jb → (w'.setCell ⟨jb, 2, none⟩ (.slice (some ⟨gn, 0, none⟩) (ns.length + 1) cn)).heap[g]? = w'.heap[g]? := fun g hg => heap_setCell_other _ _ _ _ (fun e => hg e)
        have hsz4 : (w'.setCell ⟨jb, 2, none⟩ (.slice (some ⟨gn, 0, none⟩) (ns.length + 1) cn)).heap.size = w'.heap.size := by simp [World.setCell]
        refine Or.inr ⟨⟨g0, g1, g2, g3, g4, g5⟩, gn, cn, ?_⟩
        exact { df := h.df, sz_ := h.sz_, pres := h.pres, s5 := h.s5, row := ownsRow_frame h.row (fun g hg => blk g (fun e => hgj (by have : gn = g := (by simpa [Value.ownBlock] using hg); omega))), wh := h.wh, s6 := h.s6, hjb := set_list hjb2 2 _, fr := (h.fr.setCell (p := ⟨jb, 2, none⟩) (Or.inl (by simp)) _) }
  · intro D a' w' hI hall
    have hszo : copyNameOps.size = 8 := rfl
    rcases hI with ⟨h5, _⟩ | ⟨_, gn, cn, h⟩
    · rw [hall 5 (by rw [hszo]; omega)] at h5
      cases h5
    · rw [hall 6 (by rw [hszo]; omega), hall 7 (by rw [hszo]; omega)] at h
      have hrow := h.row
      have hjb2 := h.hjb
      simp only [if_true] at hjb2
      have hsz0 := h.fr.size
      have hgl : lo ≤ gn ∧ gn < w'.heap.size := by
        obtain ⟨cur, fr, hg⟩ := own_block hrow (g := gn) rfl
        refine ⟨?_, lt_of_heap hg⟩
        rcases h.wh with e2 | e2
        · exact (acc.hnb gn e2).1
        · omega
      refine hok a' w' _ h.df h.sz_ h.pres ⟨hjb2, ⟨_, _, acc.name (hi' := w'.heap.size) x (by rw [List.length_append, List.map_append]; exact hrow) (fun g h1 h2 h3 => h.fr.block g h2 ?_) ?_ hsz0 hlo⟩, Nat.le_trans hlo hsz0, hjl⟩ ?_
      · simp
        exact ⟨by omega, h3⟩
      · rcases h.wh with e2 | e2
        · exact Or.inl (by rw [e2]; rfl)
        · refine Or.inr fun g hg => ?_
          obtain rfl : gn = g := by simpa [Value.ownBlock] using hg
          exact ⟨e2, hgl.2⟩
      · refine h.fr.mono hlo (fun g hg hm => ?_)
        simp only [List.mem_cons, Option.mem_toList] at hm
        rcases hm with rfl | hm
        · simp
        · have := acc.hnb g hm; omega
def copyKidOps : Array Oper := #[
  { dst := some 36, op := .fieldAddr 25 (.tmp 3) 3, type := 0, pos := "right.go:80", after := #[], guard := none },
  { dst := some 37, op := .load 23 (.tmp 36), type := 23, pos := "right.go:80", after := #[{ on := 0, ground := .data }], guard := none },
  { dst := some 38, op := .load 25 (.tmp 7), type := 25, pos := "right.go:80", after := #[], guard := none },
  { dst := some 39, op := .call { callee := .value (.func 29), args := #[.tmp 38], argTypes := #[25] }, type := 25, pos := "right.go:80", after := #[{ on := 2, ground := .data }], guard := none },
  { dst := some 40, op := .buildSlice 23 1 #[(0, .tmp 39)], type := 23, pos := "right.go:80", after := #[{ on := 3, ground := .data }], guard := none },
  { dst := some 41, op := .call { callee := .builtin .append, args := #[.tmp 37, .tmp 40], argTypes := #[23, 23] }, type := 23, pos := "right.go:80", after := #[{ on := 1, ground := .data }, { on := 4, ground := .data }, { on := 3, ground := .chain }], guard := none },
  { dst := some 42, op := .fieldAddr 25 (.tmp 3) 3, type := 0, pos := "right.go:80", after := #[{ on := 0, ground := .phase }, { on := 1, ground := .phase }, { on := 2, ground := .phase }, { on := 3, ground := .phase }, { on := 4, ground := .phase }, { on := 5, ground := .phase }], guard := none },
  { dst := none, op := .store 23 (.tmp 42) (.tmp 41), type := 0, pos := "right.go:80", after := #[{ on := 6, ground := .data }, { on := 5, ground := .data }, { on := 5, ground := .chain }, { on := 0, ground := .phase }, { on := 1, ground := .phase }, { on := 2, ground := .phase }, { on := 3, ground := .phase }, { on := 4, ground := .phase }, { on := 5, ground := .phase }], guard := none }]
section
variable (a0 : Act) (w0 : World) (jb lo : Nat) (k : Int) (t : List UInt8) (nv kv : Value) (vs : List Value) (v : Value) (j : Js.J)
structure KA (d0 d1 d2 d3 d4 : Bool) (a : Act) (w : World) (nb : Nat) (x y : Nat) (u : Value) : Prop where
  df : a.defers = []
  sz_ : a.tmps.size = 45
  pres : ∀ i, i < 36 ∨ 43 ≤ i → a.tmps.getD i undef = a0.tmps.getD i undef
  s0 : d0 = true → a.tmps.getD 36 undef = .pointer (some ⟨jb, 3, none⟩)
  s1 : d1 = true → a.tmps.getD 37 undef = kv
  s2 : d2 = true → a.tmps.getD 38 undef = v
  s3 : d3 = true → a.tmps.getD 39 undef = u ∧ Own w x y j u ∧ w0.heap.size ≤ x ∧ x ≤ y ∧ y ≤ w.heap.size
  s4 : d4 = true → a.tmps.getD 40 undef = .slice (some ⟨nb, 0, none⟩) 1 1 ∧ w.heap[nb]? = some (.cells (partsV u).toArray 25 (0, 0))
  d43 : d4 = true → d3 = true
  d10 : d1 = true → d0 = true
  d32 : d3 = true → d2 = true
  fr : Below w0.heap.size w0 w
structure KB (d6 d7 : Bool) (a : Act) (w : World) (gn cn : Nat) (x y : Nat) (u : Value) : Prop where
  df : a.defers = []
  sz_ : a.tmps.size = 45
  pres : ∀ i, i < 36 ∨ 43 ≤ i → a.tmps.getD i undef = a0.tmps.getD i undef
  s5 : a.tmps.getD 41 undef = .slice (some ⟨gn, 0, none⟩) (vs.length + 1) cn
  row : w.ownsRow lo 25 4 (.slice (some ⟨gn, 0, none⟩) (vs.length + 1) cn) (vs.length + 1) (flat vs ++ partsV u)
  wh : kv.ownBlock = some gn ∨ w0.heap.size ≤ gn
  s6 : d6 = true → a.tmps.getD 42 undef = .pointer (some ⟨jb, 3, none⟩)
  hjb : w.heap[jb]? = some (.cells (jrow k t nv (if d7 then .slice (some ⟨gn, 0, none⟩) (vs.length + 1) cn else kv)).toArray 25 (0, 0))
  fr : Kept w0.heap.size (jb :: kv.ownBlock.toList) w0 w
  own : Own w x y j u
  hx : w0.heap.size ≤ x
  hy : y ≤ w.heap.size
  nx : ¬ (x ≤ gn ∧ gn < y)
end
set_option maxHeartbeats 4000000 in
theorem copy_kid (jb lo : Nat) (k : Int) (t : List UInt8) (nv kv : Value) (ns : List (List UInt8)) (ks : List Js.J) (Q : Exit → Act → World → Prop) (id : Nat) (a0 : Act) (w0 : World)
    (hst : Sc jb lo k t nv kv ns ks w0) (hns : ks.length ≤ 8000) (hd : a0.defers = []) (hsz : a0.tmps.size = 45) (ht3 : a0.tmps.getD 3 undef = .pointer (some ⟨jb, 0, none⟩))
    (j : Js.J) (vb : Nat) (v : Value) (cs : List Value) (hv : v = .agg cs.toArray) (hcs : cs.length = 4) (ht7 : a0.tmps.getD 7 undef = .pointer (some ⟨vb, 0, none⟩)) (hvb : w0.heap[vb]? = some (.cells cs.toArray 25 (0, 0)))
    (hc : ∀ u, Below w0.heap.size w0 u → Calls Tryd.prog 29 #[v] u fun e u' => ∃ z, e = .returned z ∧ Made u j z u' ∧ Below u.heap.size u u')
    (hok : ∀ a w' r', a.defers = [] → a.tmps.size = 45 → (∀ i, i < 36 ∨ 43 ≤ i → a.tmps.getD i undef = a0.tmps.getD i undef) → Sc jb lo k t nv r' ns (ks ++ [j]) w' → Kept lo [jb] w0 w' → Q .normal a w') :
    (Code.region id copyKidOps true).wp Tryd.prog Q a0 w0 := by
  obtain ⟨hjb, ⟨vs, iv, acc⟩, hlo, hjl⟩ := hst
  have hvl := acc.hl
  have einv : ∀ args w, (callFunc 29 args).run Tryd.prog w = .ok (.enter 29 args) w := enters_of Tryd.func29 (by kernel_rfl) rfl
  refine wp_region_inv (by kernel_rfl) (by kernel_rfl) (fun D a' w' => (D 5 = false ∧ D 6 = false ∧ D 7 = false ∧ ∃ nb x y u, KA a0 w0 jb kv v j (D 0) (D 1) (D 2) (D 3) (D 4) a' w' nb x y u) ∨
    ((D 0 = true ∧ D 1 = true ∧ D 2 = true ∧ D 3 = true ∧ D 4 = true ∧ D 5 = true) ∧ ∃ gn cn x y u, KB a0 w0 jb lo k t nv kv vs j (D 6) (D 7) a' w' gn cn x y u)) ?_ ?_ ?_
  · exact Or.inl ⟨rfl, rfl, rfl, 0, 0, 0, .nilFunc, { df := hd, sz_ := hsz, pres := fun _ _ => rfl, s0 := (fun e => (nomatch e)), s1 := (fun e => (nomatch e)), s2 := (fun e => (nomatch e)), s3 := (fun e => (nomatch e)), s4 := (fun e => (nomatch e)), d43 := (fun e => (nomatch e)), d10 := (fun e => (nomatch e)), d32 := (fun e => (nomatch e)), fr := (Below.refl _ _).drew }⟩
  · intro D a' w' i o hI hoi hDi hdep
    have hi : i < 8 := (Array.getElem?_eq_some_iff.1 hoi).1
    rcases hI with ⟨h5, h6, h7, nb, x, y, u, h⟩ | ⟨⟨g0, g1, g2, g3, g4, g5⟩, gn, cn, x, y, u, h⟩
    · have hbs := h.fr.size
      have hjb' : w'.heap[jb]? = some (.cells (jrow k t nv kv).toArray 25 (0, 0)) := (h.fr.block jb (by omega)).trans hjb
      have ht3' : a'.tmps.getD 3 undef = .pointer (some ⟨jb, 0, none⟩) := (h.pres 3 (Or.inl (by omega))).trans ht3
      by_cases e0 : i = 0
      · subst e0
        obtain rfl : o = { dst := some 36, op := .fieldAddr 25 (.tmp 3) 3, type := 0, pos := "right.go:80", after := #[], guard := none } := (Option.some.inj hoi).symm
        refine wpOp_run hoi rfl _ (run_fa3 (.tmp 3) jb rfl ht3') ?_
        exact Or.inl ⟨h5, h6, h7, nb, x, y, u, { df := (by rw [put_defers]; exact h.df), sz_ := (by rw [put_size]; exact h.sz_), pres := fun q hq => (by rw [get_other _ _ (by omega)]; exact h.pres q hq), s0 := fun _ => (by rw [get_same _ _ (by rw [h.sz_]; omega)]), s1 := fun e => (by rw [get_other _ _ (by omega)]; exact h.s1 e), s2 := fun e => (by rw [get_other _ _ (by omega)]; exact h.s2 e), s3 := fun e => (by rw [get_other _ _ (by omega)]; exact h.s3 e), s4 := fun e => (by rw [get_other _ _ (by omega)]; exact h.s4 e), d43 := h.d43, d10 := fun _ => rfl, d32 := h.d32, fr := h.fr }⟩
      by_cases e1 : i = 1
      · subst e1
        obtain rfl : o = { dst := some 37, op := .load 23 (.tmp 36), type := 23, pos := "right.go:80", after := #[{ on := 0, ground := .data }], guard := none } := (Option.some.inj hoi).symm
        have d0 : D 0 = true := hdep { on := 0, ground := .data } (by simp) rfl
        refine wpOp_run hoi rfl _ (run_ld 23 (.tmp 36) jb 3 kv (by intro w; kernel_rfl) rfl (h.s0 d0) (by rw [cell_of_list hjb']; rfl)) ?_
        exact Or.inl ⟨h5, h6, h7, nb, x, y, u, { df := (by rw [put_defers]; exact h.df), sz_ := (by rw [put_size]; exact h.sz_), pres := fun q hq => (by rw [get_other _ _ (by omega)]; exact h.pres q hq), s0 := fun e => (by rw [get_other _ _ (by omega)]; exact h.s0 e), s1 := fun _ => (by rw [get_same _ _ (by rw [h.sz_]; omega)]), s2 := fun e => (by rw [get_other _ _ (by omega)]; exact h.s2 e), s3 := fun e => (by rw [get_other _ _ (by omega)]; exact h.s3 e), s4 := fun e => (by rw [get_other _ _ (by omega)]; exact h.s4 e), d43 := h.d43, d10 := fun _ => d0, d32 := h.d32, fr := h.fr }⟩
      by_cases e2 : i = 2
      · subst e2
        obtain rfl : o = { dst := some 38, op := .load 25 (.tmp 7), type := 25, pos := "right.go:80", after := #[], guard := none } := (Option.some.inj hoi).symm
        have hvb' : w'.heap[vb]? = some (.cells cs.toArray 25 (0, 0)) := (h.fr.block vb (lt_of_heap hvb)).trans hvb
        refine wpOp_run hoi rfl _ (run_lj (.tmp 7) vb cs rfl ((h.pres 7 (Or.inl (by omega))).trans ht7) hvb' hcs) ?_
        rw [← hv]
        exact Or.inl ⟨h5, h6, h7, nb, x, y, u, { df := (by rw [put_defers]; exact h.df), sz_ := (by rw [put_size]; exact h.sz_), pres := fun q hq => (by rw [get_other _ _ (by omega)]; exact h.pres q hq), s0 := fun e => (by rw [get_other _ _ (by omega)]; exact h.s0 e), s1 := fun e => (by rw [get_other _ _ (by omega)]; exact h.s1 e), s2 := fun _ => (by rw [get_same _ _ (by rw [h.sz_]; omega)]), s3 := fun e => (by rw [get_other _ _ (by omega)]; exact h.s3 e), s4 := fun e => (by rw [get_other _ _ (by omega)]; exact h.s4 e), d43 := h.d43, d10 := h.d10, d32 := fun _ => rfl, fr := h.fr }⟩
      by_cases e3 : i = 3
      · subst e3
        obtain rfl : o = { dst := some 39, op := .call { callee := .value (.func 29), args := #[.tmp 38], argTypes := #[25] }, type := 25, pos := "right.go:80", after := #[{ on := 2, ground := .data }], guard := none } := (Option.some.inj hoi).symm
        have d2 : D 2 = true := hdep { on := 2, ground := .data } (by simp) rfl
        have n4 : D 4 = false := by
          cases hd4 : D 4 with
          | false => rfl
          | true => have := h.d43 hd4; rw [hDi] at this; cases this
        refine wpOp_call hoi rfl 29 _ (run_cl 25 29 (.tmp 38) _ einv rfl (h.s2 d2) rfl) ?_
        refine (hc w' h.fr).mono fun e w2 he => ?_
        obtain ⟨z, rfl, hm, hb2⟩ := he
        have hm : Own w2 w'.heap.size w2.heap.size j z := hm
        exact Or.inl ⟨_, rfl, Or.inl ⟨h5, h6, h7, nb, w'.heap.size, w2.heap.size, z, { df := (by rw [put_defers]; exact h.df), sz_ := (by rw [put_size]; exact h.sz_), pres := fun q hq => (by rw [get_other _ _ (by omega)]; exact h.pres q hq), s0 := fun e => (by rw [get_other _ _ (by omega)]; exact h.s0 e), s1 := fun e => (by rw [get_other _ _ (by omega)]; exact h.s1 e), s2 := fun e => (by rw [get_other _ _ (by omega)]; exact h.s2 e), s3 := fun _ => ⟨(by rw [get_same _ _ (by rw [h.sz_]; omega)]), hm, hbs, hb2.size, Nat.le_refl _⟩, s4 := fun e => (by have e2 : D 4 = true := e; rw [n4] at e2; cases e2), d43 := fun _ => rfl, d10 := h.d10, d32 := fun _ => d2, fr := h.fr.trans (hb2.mono hbs) }⟩⟩
      by_cases e4 : i = 4
      · subst e4
        obtain rfl : o = { dst := some 40, op := .buildSlice 23 1 #[(0, .tmp 39)], type := 23, pos := "right.go:80", after := #[{ on := 3, ground := .data }], guard := none } := (Option.some.inj hoi).symm
        have d3 : D 3 = true := hdep { on := 3, ground := .data } (by simp) rfl
        obtain ⟨e3v, hown3, hx3, hxy3, hy3⟩ := h.s3 d3
        obtain ⟨us, hus, husz, hu1, hup⟩ := four_one hown3.four
        have hcells : ((a'.eval (.tmp 39)).cells) = (partsV u).toArray := by rw [eval_tmp, e3v, hus]; show us = _; rw [← hus, ← hup]
        have hrun := run_bs1 (o := { dst := some 40, op := .buildSlice 23 1 #[(0, .tmp 39)], type := 23, pos := "right.go:80", after := #[{ on := 3, ground := .data }], guard := none }) (ρ := a'.eval) (w := w') (.tmp 39) rfl (by rw [hcells, ← hup]; simpa using husz)
        rw [hcells] at hrun
        refine wpOp_run hoi rfl _ hrun ?_
        have hal : Below w'.heap.size w' (w'.alloc (.cells (partsV u).toArray 25)) := (Below.refl _ _).alloc (Nat.le_refl _) _
        exact Or.inl ⟨h5, h6, h7, w'.heap.size, x, y, u, { df := (by rw [put_defers]; exact h.df), sz_ := (by rw [put_size]; exact h.sz_), pres := fun q hq => (by rw [get_other _ _ (by omega)]; exact h.pres q hq), s0 := fun e => (by rw [get_other _ _ (by omega)]; exact h.s0 e), s1 := fun e => (by rw [get_other _ _ (by omega)]; exact h.s1 e), s2 := fun e => (by rw [get_other _ _ (by omega)]; exact h.s2 e), s3 := fun e => (by rw [get_other _ _ (by omega)]; obtain ⟨b1, b2, b3, b4, b5⟩ := h.s3 e; exact ⟨b1, b2.frame (fun g _ hg => hal.block g (by omega)), b3, b4, Nat.le_trans b5 hal.size⟩), s4 := fun _ => ⟨(by rw [get_same _ _ (by rw [h.sz_]; omega)]), heap_alloc_new _ _⟩, d43 := fun _ => d3, d10 := h.d10, d32 := h.d32, fr := h.fr.trans (hal.mono hbs) }⟩
      by_cases e5 : i = 5
      · subst e5
        obtain rfl : o = { dst := some 41, op := .call { callee := .builtin .append, args := #[.tmp 37, .tmp 40], argTypes := #[23, 23] }, type := 23, pos := "right.go:80", after := #[{ on := 1, ground := .data }, { on := 4, ground := .data }, { on := 3, ground := .chain }], guard := none } := (Option.some.inj hoi).symm
        have d1 : D 1 = true := hdep { on := 1, ground := .data } (by simp) rfl
        have d4 : D 4 = true := hdep { on := 4, ground := .data } (by simp) rfl
        have d3 : D 3 = true := h.d43 d4
        have d0 : D 0 = true := h.d10 d1
        have d2 : D 2 = true := h.d32 d3
        obtain ⟨e4v, hnb⟩ := h.s4 d4
        have hok' : w'.ownsRow lo 25 4 kv vs.length (flat vs) := ownsRow_frame acc.hk fun g hg => h.fr.block g (by have := acc.hkb g hg; omega)
        obtain ⟨e3v, hown3, hx3, hxy3, hy3⟩ := h.s3 d3
        obtain ⟨us, hus, husz, hu1, hup⟩ := four_one hown3.four
        obtain ⟨gn, cn, w2, hrun, hrow, hgr, hwh⟩ := run_ap (o := { dst := some 41, op := .call { callee := .builtin .append, args := #[.tmp 37, .tmp 40], argTypes := #[23, 23] }, type := 23, pos := "right.go:80", after := #[{ on := 1, ground := .data }, { on := 4, ground := .data }, { on := 3, ground := .chain }], guard := none }) (ρ := a'.eval) (.tmp 37) (.tmp 40) lo kv vs.length (flat vs) ⟨nb, 0, none⟩ 1 (partsV u) rfl (h.s1 d1) hok' e4v (by rw [← hup]; simpa using husz) (news_row hnb) (by intro z hz; rw [← hup] at hz; exact Array.all_eq_true_iff_forall_mem.1 hu1 z (by simpa using hz)) (by omega) (by omega)
        refine wpOp_run hoi rfl _ hrun ?_
        have blk : ∀ g, g < w'.heap.size → kv.ownBlock ≠ some g → w2.heap[g]? = w'.heap[g]? := fun g hg hne => hgr.block g hg (fun e => hne e.symm)
        have hjk : kv.ownBlock ≠ some jb := fun e => by have := acc.hkb jb e; omega
        have wh2 : kv.ownBlock = some gn ∨ w0.heap.size ≤ gn := by
          rcases hwh with e | e
          · exact Or.inl e
          · exact Or.inr (by omega)
        have nx2 : ¬ (x ≤ gn ∧ gn < y) := by
          rcases hwh with e | e
          · have := acc.hkb gn e; omega
          · omega
        refine Or.inr ⟨⟨d0, d1, d2, d3, d4, rfl⟩, gn, cn, x, y, u, ?_⟩
        show KB a0 w0 jb lo k t nv kv vs j (D 6) (D 7) _ w2 gn cn x y u
        rw [h6, h7]
        exact { df := (by rw [put_defers]; exact h.df), sz_ := (by rw [put_size]; exact h.sz_), pres := fun q hq => (by rw [get_other _ _ (by omega)]; exact h.pres q hq), s5 := (by rw [get_same _ _ (by rw [h.sz_]; omega)]), row := hrow, wh := wh2, s6 := fun e => (nomatch e), hjb := (blk jb (lt_of_heap hjb') hjk).trans hjb', fr := (Kept.of_below h.fr).trans ⟨hgr.os, hgr.tape, hgr.output, hgr.size, fun g hg hn => blk g (by omega) (fun e => hn (by simp [e]))⟩, own := hown3.frame (fun g h1 h2 => blk g (by omega) (fun e => by have := acc.hkb g e; omega)), hx := hx3, hy := Nat.le_trans hy3 hgr.size, nx := nx2 }
      · exfalso
        have : D 5 = true := by
          have h7' : i = 6 ∨ i = 7 := by omega
          rcases h7' with rfl | rfl
          · obtain rfl : o = { dst := some 42, op := .fieldAddr 25 (.tmp 3) 3, type := 0, pos := "right.go:80", after := #[{ on := 0, ground := .phase }, { on := 1, ground := .phase }, { on := 2, ground := .phase }, { on := 3, ground := .phase }, { on := 4, ground := .phase }, { on := 5, ground := .phase }], guard := none } := (Option.some.inj hoi).symm
            exact hdep { on := 5, ground := .phase } (by simp) rfl
          · obtain rfl : o = { dst := none, op := .store 23 (.tmp 42) (.tmp 41), type := 0, pos := "right.go:80", after := #[{ on := 6, ground := .data }, { on := 5, ground := .data }, { on := 5, ground := .chain }, { on := 0, ground := .phase }, { on := 1, ground := .phase }, { on := 2, ground := .phase }, { on := 3, ground := .phase }, { on := 4, ground := .phase }, { on := 5, ground := .phase }], guard := none } := (Option.some.inj hoi).symm
            exact hdep { on := 5, ground := .phase } (by simp) rfl
        rw [h5] at this
        cases this
    · have hge : 6 ≤ i := by
        rcases Nat.lt_or_ge i 6 with hlt | hge
        · exfalso
          have : D i = true := by
            have : i = 0 ∨ i = 1 ∨ i = 2 ∨ i = 3 ∨ i = 4 ∨ i = 5 := by omega
            rcases this with rfl | rfl | rfl | rfl | rfl | rfl <;> assumption
          rw [hDi] at this
          cases this
        · exact hge
      have ht3' : a'.tmps.getD 3 undef = .pointer (some ⟨jb, 0, none⟩) := (h.pres 3 (Or.inl (by omega))).trans ht3
      have hgj : gn ≠ jb := fun e => by
        rcases h.wh with e2 | e2
        · have := acc.hkb gn e2; omega
        · omega
      by_cases e6 : i = 6
      · subst e6
        obtain rfl : o = { dst := some 42, op := .fieldAddr 25 (.tmp 3) 3, type := 0, pos := "right.go:80", after := #[{ on := 0, ground := .phase }, { on := 1, ground := .phase }, { on := 2, ground := .phase }, { on := 3, ground := .phase }, { on := 4, ground := .phase }, { on := 5, ground := .phase }], guard := none } := (Option.some.inj hoi).symm
        refine wpOp_run hoi rfl _ (run_fa3 (.tmp 3) jb rfl ht3') ?_
        exact Or.inr ⟨⟨g0, g1, g2, g3, g4, g5⟩, gn, cn, x, y, u, { df := (by rw [put_defers]; exact h.df), sz_ := (by rw [put_size]; exact h.sz_), pres := fun q hq => (by rw [get_other _ _ (by omega)]; exact h.pres q hq), s5 := (by rw [get_other _ _ (by omega)]; exact h.s5), row := h.row, wh := h.wh, s6 := fun _ => (by rw [get_same _ _ (by rw [h.sz_]; omega)]), hjb := h.hjb, fr := h.fr, own := h.own, hx := h.hx, hy := h.hy, nx := h.nx }⟩
      · obtain rfl : i = 7 := by omega
        obtain rfl : o = { dst := none, op := .store 23 (.tmp 42) (.tmp 41), type := 0, pos := "right.go:80", after := #[{ on := 6, ground := .data }, { on := 5, ground := .data }, { on := 5, ground := .chain }, { on := 0, ground := .phase }, { on := 1, ground := .phase }, { on := 2, ground := .phase }, { on := 3, ground := .phase }, { on := 4, ground := .phase }, { on := 5, ground := .phase }], guard := none } := (Option.some.inj hoi).symm
        have d6 : D 6 = true := hdep { on := 6, ground := .data } (by simp) rfl
        have hjb2 := h.hjb
        rw [hDi] at hjb2
        simp only [Bool.false_eq_true, if_false] at hjb2
        refine wpOp_skip hoi rfl rfl (run_st1 (.tmp 42) (.tmp 41) jb 3 (some ⟨gn, 0, none⟩) (vs.length + 1) cn kv rfl (h.s6 d6) h.s5 (by rw [cell_of_list hjb2]; rfl) (free_of_list hjb2 3)) ?_
        have blk : ∀ g, g ≠ jb → (w'.setCell ⟨jb, 3, none⟩ (.slice (some ⟨gn, 0, none⟩) (vs.length + 1) cn)).heap[g]? = w'.heap[g]? := fun g hg => heap_setCell_other _ _ _ _ (fun e => hg e)
        have hsz4 : (w'.setCell ⟨jb, 3, none⟩ (.slice (some ⟨gn, 0, none⟩) (vs.length + 1) cn)).heap.size = w'.heap.size := by simp [World.setCell]
        refine Or.inr ⟨⟨g0, g1, g2, g3, g4, g5⟩, gn, cn, x, y, u, ?_⟩
        exact { df := h.df, sz_ := h.sz_, pres := h.pres, s5 := h.s5, row := ownsRow_frame h.row (fun g hg => blk g (fun e => hgj (by have : gn = g := (by simpa [Value.ownBlock] using hg); omega))), wh := h.wh, s6 := h.s6, hjb := set_list hjb2 3 _, fr := (h.fr.setCell (p := ⟨jb, 3, none⟩) (Or.inl (by simp)) _), own := h.own.frame (fun g h1 h2 => blk g (fun e => by have := h.hx; omega)), hx := h.hx, hy := (by rw [hsz4]; exact h.hy), nx := h.nx }
  · intro D a' w' hI hall
    have hszo : copyKidOps.size = 8 := rfl
    rcases hI with ⟨h5, _⟩ | ⟨_, gn, cn, x, y, u, h⟩
    · rw [hall 5 (by rw [hszo]; omega)] at h5
      cases h5
    · rw [hall 6 (by rw [hszo]; omega), hall 7 (by rw [hszo]; omega)] at h
      have hrow := h.row
      have hjb2 := h.hjb
      simp only [if_true] at hjb2
      have hsz0 := h.fr.size
      have hgl : lo ≤ gn ∧ gn < w'.heap.size := by
        obtain ⟨cur, fr, hg⟩ := own_block hrow (g := gn) rfl
        refine ⟨?_, lt_of_heap hg⟩
        rcases h.wh with e2 | e2
        · exact (acc.hkb gn e2).1
        · omega
      refine hok a' w' _ h.df h.sz_ h.pres ⟨hjb2, ⟨_, _, acc.kid (hi' := w'.heap.size) hrow (fun g h1 h2 h3 => h.fr.block g h2 ?_) h.own h.hx h.hy ?_ hsz0 hlo⟩, Nat.le_trans hlo hsz0, hjl⟩ ?_
      · simp
        exact ⟨by omega, h3⟩
      · rcases h.wh with e2 | e2
        · exact Or.inl (by rw [e2]; rfl)
        · refine Or.inr fun g hg => ?_
          obtain rfl : gn = g := by simpa [Value.ownBlock] using hg
          exact ⟨e2, hgl.2, h.nx⟩
      · refine h.fr.mono hlo (fun g hg hm => ?_)
        simp only [List.mem_cons, Option.mem_toList] at hm
        rcases hm with rfl | hm
        · simp
        · have := acc.hkb g hm; omega
end Go.Proofs.YthfnlnhehececaaDoor
