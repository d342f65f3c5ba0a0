/- The region in which an object pushes the name that it reads: whatever its order. -/
import Derived.Test.YthfnlnhehececaaDoorNKid
namespace Go.Proofs.YthfnlnhehececaaDoor
open Go Go.RowKit

def nameOps (s : Nat) (pos : String) : Array Oper := #[
  { dst := some s, op := .fieldAddr 25 (.tmp 0) 2, type := 0, pos := pos, after := #[], guard := none },
  { dst := some (s + 1), op := .load 22 (.tmp s), type := 22, pos := pos, after := #[{ on := 0, ground := .data }], guard := none },
  { dst := some (s + 2), op := .load 87 (.tmp 1), type := 87, pos := pos, after := #[], guard := none },
  { dst := some (s + 3), op := .call { callee := .value (.func 61), args := #[.tmp (s + 2)], argTypes := #[87] }, type := 9, pos := pos, after := #[{ on := 2, ground := .data }], guard := none },
  { dst := some (s + 4), op := .buildSlice 22 1 #[(0, .tmp (s + 3))], type := 22, pos := pos, after := #[{ on := 3, ground := .data }], guard := none },
  { dst := some (s + 5), op := .call { callee := .builtin .append, args := #[.tmp (s + 1), .tmp (s + 4)], argTypes := #[22, 22] }, type := 22, pos := pos, after := #[{ on := 1, ground := .data }, { on := 4, ground := .data }, { on := 3, ground := .chain }], guard := none },
  { dst := some (s + 6), op := .fieldAddr 25 (.tmp 0) 2, type := 0, pos := pos, after := #[{ on := 0, ground := .phase }, { on := 1, ground := .phase }, { on := 2, ground := .phase }, { on := 3, ground := .phase }, { on := 4, ground := .phase }, { on := 5, ground := .phase }], guard := none },
  { dst := none, op := .store 22 (.tmp (s + 6)) (.tmp (s + 5)), type := 0, pos := pos, after := #[{ on := 6, ground := .data }, { on := 5, ground := .data }, { on := 5, ground := .chain }, { on := 0, ground := .phase }, { on := 1, ground := .phase }, { on := 2, ground := .phase }, { on := 3, ground := .phase }, { on := 4, ground := .phase }, { on := 5, ground := .phase }], guard := none }]
section
variable (S : List UInt8) (w0 : World) (jb rb b q dd lo s sz n : Nat) (k : Int) (nv kv : Value) (ns : List (List UInt8)) (r x : List UInt8) (R : Js.Rs (List UInt8))
structure PA (d0 d1 d2 d3 d4 : Bool) (a : Act) (w : World) (nb : Nat) : Prop where
  df : a.defers = []
  sz_ : a.tmps.size = sz
  t0 : a.tmps.getD 0 undef = .pointer (some ⟨jb, 0, none⟩)
  t1 : a.tmps.getD 1 undef = .pointer (some ⟨rb, 0, none⟩)
  s0 : d0 = true → a.tmps.getD s undef = .pointer (some ⟨jb, 2, none⟩)
  s1 : d1 = true → a.tmps.getD (s + 1) undef = nv
  s2 : d2 = true → a.tmps.getD (s + 2) undef = .pointer (some ⟨b, 0, none⟩)
  s3 : d3 = true → a.tmps.getD (s + 3) undef = .string (bs x) ∧ Rd w b (bs S) (S.length - r.length) dd
  n3 : d3 = false → Rd w b (bs S) q dd
  ok3 : d3 = true → R = .ok x r
  d43 : d4 = true → d3 = true
  d10 : d1 = true → d0 = true
  d32 : d3 = true → d2 = true
  s4 : d4 = true → a.tmps.getD (s + 4) undef = .slice (some ⟨nb, 0, none⟩) 1 1 ∧ w.heap[nb]? = some (.cells [Value.string (bs x)].toArray 9 (0, 0)) ∧ nb ≠ b
  fr : Kept w0.heap.size [b] w0 w
  tb : Tb w
structure PB (d6 d7 : Bool) (a : Act) (w : World) (gn cn : Nat) : Prop where
  df : a.defers = []
  sz_ : a.tmps.size = sz
  t0 : a.tmps.getD 0 undef = .pointer (some ⟨jb, 0, none⟩)
  rd : Rd w b (bs S) (S.length - r.length) dd
  s5 : a.tmps.getD (s + 5) undef = .slice (some ⟨gn, 0, none⟩) (ns.length + 1) cn
  row : w.ownsRow lo 9 1 (.slice (some ⟨gn, 0, none⟩) (ns.length + 1) cn) (ns.length + 1) (ns.map strV ++ [strV x])
  wh : nv.ownBlock = some gn ∨ w0.heap.size ≤ gn
  s6 : d6 = true → a.tmps.getD (s + 6) undef = .pointer (some ⟨jb, 2, none⟩)
  hjb : w.heap[jb]? = some (.cells (jrow k [] (if d7 then .slice (some ⟨gn, 0, none⟩) (ns.length + 1) cn else nv) kv).toArray 25 (0, 0))
  fr : Kept w0.heap.size (b :: jb :: nv.ownBlock.toList) w0 w
end
set_option maxHeartbeats 4000000 in
theorem name_region (S : List UInt8) (jb rb b q dd lo s sz : Nat) (k : Int) (nv kv : Value) (ns : List (List UInt8)) (ks : List Js.J) (R : Js.Rs (List UInt8)) (Q : Exit → Act → World → Prop) (id : Nat) (pos : String) (a : Act) (w0 : World)
    (hst : St jb rb b lo k nv kv ns ks w0) (hns : ns.length ≤ 8000) (hb : Hi b) (hT : Tb w0) (hr : Rd w0 b (bs S) q dd) (hd : a.defers = []) (hsz : a.tmps.size = sz) (hs2 : 2 ≤ s) (hs9 : s + 7 ≤ sz)
    (ht0 : a.tmps.getD 0 undef = .pointer (some ⟨jb, 0, none⟩)) (ht1 : a.tmps.getD 1 undef = .pointer (some ⟨rb, 0, none⟩))
    (hc : ∀ v, Rd v b (bs S) q dd → Tb v → Calls Tryd.prog 61 #[.pointer (some ⟨b, 0, none⟩)] v (Out b S dd v (fun t v _ => v = .string (bs t)) R))
    (hbad : ∀ c r, R = .bad c r → ∀ a w', a.defers = [] → Kept w0.heap.size [b] w0 w' → Q (.panic (rfc c (S.length - r.length))) a w')
    (hok : ∀ x r, R = .ok x r → ∀ a w' nv', a.defers = [] → a.tmps.size = sz → a.tmps.getD 0 undef = .pointer (some ⟨jb, 0, none⟩) → a.tmps.getD 1 undef = .pointer (some ⟨rb, 0, none⟩) → St jb rb b lo k nv' kv (ns ++ [x]) ks w' → Rd w' b (bs S) (S.length - r.length) dd → Kept lo [b, jb] w0 w' → Q .normal a w') :
    (Code.region id (nameOps s pos) true).wp Tryd.prog Q a w0 := by
  obtain ⟨hjb, hrb, ⟨vs, iv, acc⟩, hlo, hjl, hrl, hbl, hjr, hjbn, hrbn⟩ := hst
  obtain ⟨x, r, hjr2⟩ : ∃ x r, R = .ok x r ∨ ∃ c q, R = .bad c q := by
    cases R with
    | ok j r => exact ⟨j, r, Or.inl rfl⟩
    | bad c r => exact ⟨[], [], Or.inr ⟨c, r, rfl⟩⟩
  have einv : ∀ args w, (callFunc 61 args).run Tryd.prog w = .ok (.enter 61 args) w := enters_of Tryd.func61 (by kernel_rfl) rfl
  refine wp_region_inv (by kernel_rfl) (by kernel_rfl) (fun D a' w' => a'.tmps.getD 1 undef = .pointer (some ⟨rb, 0, none⟩) ∧ ((D 5 = false ∧ D 6 = false ∧ D 7 = false ∧ ∃ nb, PA S w0 jb rb b q dd s sz nv r x R (D 0) (D 1) (D 2) (D 3) (D 4) a' w' nb) ∨
    ((D 0 = true ∧ D 1 = true ∧ D 2 = true ∧ D 3 = true ∧ D 4 = true ∧ D 5 = true) ∧ R = .ok x r ∧ ∃ gn cn, PB S w0 jb b dd lo s sz k nv kv ns r x (D 6) (D 7) a' w' gn cn))) ?_ ?_ ?_
  · exact ⟨ht1, Or.inl ⟨rfl, rfl, rfl, 0, { df := hd, sz_ := hsz, t0 := ht0, t1 := ht1, s0 := fun e => (nomatch e), s1 := fun e => (nomatch e), s2 := fun e => (nomatch e), s3 := fun e => (nomatch e), n3 := fun _ => hr, ok3 := fun e => (nomatch e), d43 := fun e => (nomatch e), d10 := fun e => (nomatch e), d32 := fun e => (nomatch e), s4 := fun e => (nomatch e), fr := (Kept.refl _ _ _).drew, tb := hT }⟩⟩
  · intro D a' w' i o hI hoi hDi hdep
    have hi : i < 8 := (Array.getElem?_eq_some_iff.1 hoi).1
    obtain ⟨hg1, hI⟩ := hI
    have T1 : ∀ (d : Nat) (v : Value), 1 ≠ d → (a'.put (some d) v).tmps.getD 1 undef = .pointer (some ⟨rb, 0, none⟩) := fun d v hd => by rw [get_other _ _ hd]; exact hg1
    rcases hI with ⟨h5, h6, h7, nb, h⟩ | ⟨⟨g0, g1, g2, g3, g4, g5⟩, hRok, gn, cn, h⟩
    · have hjb' : w'.heap[jb]? = some (.cells (jrow k [] nv kv).toArray 25 (0, 0)) := h.fr.heap hjb (by omega) (by simp; omega)
      have hrb' : w'.heap[rb]? = some (.cells [Value.pointer (some ⟨b, 0, none⟩)].toArray 87 (0, 0)) := h.fr.heap hrb (by omega) (by simp; omega)
      by_cases e0 : i = 0
      · subst e0
        obtain rfl : o = { dst := some s, op := .fieldAddr 25 (.tmp 0) 2, type := 0, pos := pos, after := #[], guard := none } := (Option.some.inj hoi).symm
        refine wpOp_run hoi rfl _ (run_fa2 (.tmp 0) jb rfl h.t0) ?_
        exact ⟨T1 _ _ (by omega), Or.inl ⟨h5, h6, h7, nb, { df := (by rw [put_defers]; exact h.df), sz_ := (by rw [put_size]; exact h.sz_), t0 := (by rw [get_other _ _ (by omega)]; exact h.t0), t1 := (by rw [get_other _ _ (by omega)]; exact h.t1), s0 := fun _ => (by rw [get_same _ _ (by rw [h.sz_]; omega)]), s1 := fun e => (by rw [get_other _ _ (by omega)]; exact h.s1 e), s2 := fun e => (by rw [get_other _ _ (by omega)]; exact h.s2 e), s3 := fun e => (by rw [get_other _ _ (by omega)]; exact h.s3 e), s4 := fun e => (by rw [get_other _ _ (by omega)]; exact h.s4 e), n3 := h.n3, ok3 := h.ok3, fr := h.fr, tb := h.tb, d10 := fun _ => rfl, d32 := h.d32, d43 := h.d43 }⟩⟩
      by_cases e1 : i = 1
      · subst e1
        obtain rfl : o = { dst := some (s + 1), op := .load 22 (.tmp s), type := 22, pos := pos, after := #[{ on := 0, ground := .data }], guard := none } := (Option.some.inj hoi).symm
        have d0 : D 0 = true := hdep { on := 0, ground := .data } (by simp) rfl
        refine wpOp_run hoi rfl _ (run_ld 22 (.tmp s) jb 2 nv (by intro w; kernel_rfl) rfl (h.s0 d0) (by rw [cell_of_list hjb']; rfl)) ?_
        exact ⟨T1 _ _ (by omega), Or.inl ⟨h5, h6, h7, nb, { df := (by rw [put_defers]; exact h.df), sz_ := (by rw [put_size]; exact h.sz_), t0 := (by rw [get_other _ _ (by omega)]; exact h.t0), t1 := (by rw [get_other _ _ (by omega)]; exact h.t1), s0 := fun e => (by rw [get_other _ _ (by omega)]; exact h.s0 e), s1 := fun _ => (by rw [get_same _ _ (by rw [h.sz_]; omega)]), s2 := fun e => (by rw [get_other _ _ (by omega)]; exact h.s2 e), s3 := fun e => (by rw [get_other _ _ (by omega)]; exact h.s3 e), s4 := fun e => (by rw [get_other _ _ (by omega)]; exact h.s4 e), n3 := h.n3, ok3 := h.ok3, fr := h.fr, tb := h.tb, d10 := fun _ => d0, d32 := h.d32, d43 := h.d43 }⟩⟩
      by_cases e2 : i = 2
      · subst e2
        obtain rfl : o = { dst := some (s + 2), op := .load 87 (.tmp 1), type := 87, pos := pos, after := #[], guard := none } := (Option.some.inj hoi).symm
        refine wpOp_run hoi rfl _ (run_ld 87 (.tmp 1) rb 0 (.pointer (some ⟨b, 0, none⟩)) (by intro w; kernel_rfl) rfl h.t1 (by rw [cell_of_list hrb']; rfl)) ?_
        exact ⟨T1 _ _ (by omega), Or.inl ⟨h5, h6, h7, nb, { df := (by rw [put_defers]; exact h.df), sz_ := (by rw [put_size]; exact h.sz_), t0 := (by rw [get_other _ _ (by omega)]; exact h.t0), t1 := (by rw [get_other _ _ (by omega)]; exact h.t1), s0 := fun e => (by rw [get_other _ _ (by omega)]; exact h.s0 e), s1 := fun e => (by rw [get_other _ _ (by omega)]; exact h.s1 e), s2 := fun _ => (by rw [get_same _ _ (by rw [h.sz_]; omega)]), s3 := fun e => (by rw [get_other _ _ (by omega)]; exact h.s3 e), s4 := fun e => (by rw [get_other _ _ (by omega)]; exact h.s4 e), n3 := h.n3, ok3 := h.ok3, fr := h.fr, tb := h.tb, d10 := h.d10, d32 := fun _ => rfl, d43 := h.d43 }⟩⟩
      by_cases e3 : i = 3
      · subst e3
        obtain rfl : o = { dst := some (s + 3), op := .call { callee := .value (.func 61), args := #[.tmp (s + 2)], argTypes := #[87] }, type := 9, pos := pos, after := #[{ on := 2, ground := .data }], guard := none } := (Option.some.inj hoi).symm
        have d2 : D 2 = true := hdep { on := 2, ground := .data } (by simp) rfl
        have d4 : D 4 = false := by
          cases hd4 : D 4 with
          | false => rfl
          | true => have := h.d43 hd4; rw [hDi] at this; cases this
        refine wpOp_call hoi rfl 61 _ (run_cl 87 61 (.tmp (s + 2)) _ einv rfl (h.s2 d2) rfl) ?_
        refine (hc w' (h.n3 hDi) h.tb).mono fun e w2 he => ?_
        cases hR : R with
        | bad c r' =>
          rw [hR] at he
          obtain ⟨rfl, hk2⟩ := he
          exact Or.inr ⟨_, rfl, hbad c r' hR a' w2 h.df (kk h.fr hk2)⟩
        | ok x' r' =>
          rw [hR] at he hjr2
          obtain ⟨rfl, rfl⟩ : x' = x ∧ r' = r := by
            rcases hjr2 with hj | ⟨c, q, hj⟩
            · injection hj with h1 h2; exact ⟨h1, h2⟩
            · cases hj
          obtain ⟨v2, rfl, rfl, hrd, hk2⟩ := he
          refine Or.inl ⟨_, rfl, T1 _ _ (by omega), Or.inl ⟨h5, h6, h7, nb, ?_⟩⟩
          show PA S w0 jb rb b q dd s sz nv r' x' (.ok x' r') (D 0) (D 1) (D 2) true (D 4) _ w2 nb
          rw [d4]
          exact { df := (by rw [put_defers]; exact h.df), sz_ := (by rw [put_size]; exact h.sz_), t0 := (by rw [get_other _ _ (by omega)]; exact h.t0), t1 := (by rw [get_other _ _ (by omega)]; exact h.t1), s0 := fun e => (by rw [get_other _ _ (by omega)]; exact h.s0 e), s1 := fun e => (by rw [get_other _ _ (by omega)]; exact h.s1 e), s2 := fun e => (by rw [get_other _ _ (by omega)]; exact h.s2 e), s3 := fun _ => ⟨(by rw [get_same _ _ (by rw [h.sz_]; omega)]), hrd⟩, s4 := fun e => (nomatch e), n3 := fun e => (nomatch e), ok3 := fun _ => rfl, fr := kk h.fr hk2, tb := h.tb.keep hb hk2, d10 := h.d10, d32 := fun _ => d2, d43 := fun e => (nomatch e) }
      by_cases e4 : i = 4
      · subst e4
        obtain rfl : o = { dst := some (s + 4), op := .buildSlice 22 1 #[(0, .tmp (s + 3))], type := 22, pos := pos, after := #[{ on := 3, ground := .data }], guard := none } := (Option.some.inj hoi).symm
        have d3 : D 3 = true := hdep { on := 3, ground := .data } (by simp) rfl
        obtain ⟨e3v, hrd⟩ := h.s3 d3
        have hcells : ((a'.eval (.tmp (s + 3))).cells) = [Value.string (bs x)].toArray := by rw [eval_tmp, e3v]; rfl
        have hrun := run_bs2 (o := { dst := some (s + 4), op := .buildSlice 22 1 #[(0, .tmp (s + 3))], type := 22, pos := pos, after := #[{ on := 3, ground := .data }], guard := none }) (ρ := a'.eval) (w := w') (.tmp (s + 3)) rfl (by rw [hcells]; rfl)
        rw [hcells] at hrun
        refine wpOp_run hoi rfl _ hrun ?_
        have hal : Below w'.heap.size w' (w'.alloc (.cells [Value.string (bs x)].toArray 9)) := (Below.refl _ _).alloc (Nat.le_refl _) _
        have hbw : b < w'.heap.size := by have := h.fr.size; omega
        exact ⟨T1 _ _ (by omega), Or.inl ⟨h5, h6, h7, w'.heap.size, { df := (by rw [put_defers]; exact h.df), sz_ := (by rw [put_size]; exact h.sz_), t0 := (by rw [get_other _ _ (by omega)]; exact h.t0), t1 := (by rw [get_other _ _ (by omega)]; exact h.t1), s0 := fun e => (by rw [get_other _ _ (by omega)]; exact h.s0 e), s1 := fun e => (by rw [get_other _ _ (by omega)]; exact h.s1 e), s2 := fun e => (by rw [get_other _ _ (by omega)]; exact h.s2 e), s3 := fun e => (by rw [get_other _ _ (by omega)]; exact ⟨(h.s3 e).1, (h.s3 e).2.below hal⟩), s4 := fun _ => ⟨(by rw [get_same _ _ (by rw [h.sz_]; omega)]), heap_alloc_new _ _, by omega⟩, n3 := fun e => (h.n3 e).below hal, ok3 := h.ok3, fr := kb h.fr hal, tb := h.tb.below hal, d10 := h.d10, d32 := h.d32, d43 := fun _ => d3 }⟩⟩
      by_cases e5 : i = 5
      · subst e5
        obtain rfl : o = { dst := some (s + 5), op := .call { callee := .builtin .append, args := #[.tmp (s + 1), .tmp (s + 4)], argTypes := #[22, 22] }, type := 22, pos := pos, after := #[{ on := 1, ground := .data }, { on := 4, ground := .data }, { on := 3, ground := .chain }], guard := none } := (Option.some.inj hoi).symm
        have d1 : D 1 = true := hdep { on := 1, ground := .data } (by simp) rfl
        have d4 : D 4 = true := hdep { on := 4, ground := .data } (by simp) rfl
        have d3 : D 3 = true := hdep { on := 3, ground := .chain } (by simp) rfl
        have d0 : D 0 = true := h.d10 d1
        have d2 : D 2 = true := h.d32 d3
        have hRok : R = .ok x r := h.ok3 d3
        obtain ⟨e3v, hrd⟩ := h.s3 d3
        obtain ⟨e4v, hnb, hnbb⟩ := h.s4 d4
        have hok' : w'.ownsRow lo 9 1 nv ns.length (ns.map strV) := ownsRow_frame acc.hn fun g hg => h.fr.block g (acc.hnb g hg).2 (by have := acc.hnb g hg; simp; omega)
        obtain ⟨gn, cn, w2, hrun, hrow, hgr, hwh⟩ := run_ap2 (o := { dst := some (s + 5), op := .call { callee := .builtin .append, args := #[.tmp (s + 1), .tmp (s + 4)], argTypes := #[22, 22] }, type := 22, pos := pos, after := #[{ on := 1, ground := .data }, { on := 4, ground := .data }, { on := 3, ground := .chain }], guard := none }) (ρ := a'.eval) (.tmp (s + 1)) (.tmp (s + 4)) lo nv ns.length (ns.map strV) ⟨nb, 0, none⟩ 1 [Value.string (bs x)] rfl (h.s1 d1) hok' e4v rfl (news_row hnb) (by intro u hu; rw [List.mem_singleton.1 hu]; rfl) (by omega) (by have := h.fr.size; omega)
        refine wpOp_run hoi rfl _ hrun ?_
        have hsz0 := h.fr.size
        have blk : ∀ g, g < w'.heap.size → nv.ownBlock ≠ some g → w2.heap[g]? = w'.heap[g]? := fun g hg hne => hgr.block g hg (fun e => hne e.symm)
        have hjk : nv.ownBlock ≠ some jb := fun e => by have := acc.hnb jb e; omega
        have hbk : nv.ownBlock ≠ some b := fun e => by have := acc.hnb b e; omega
        have wh2 : nv.ownBlock = some gn ∨ w0.heap.size ≤ gn := by
          rcases hwh with e | e
          · exact Or.inl e
          · exact Or.inr (by omega)
        refine ⟨T1 _ _ (by omega), Or.inr ⟨⟨d0, d1, d2, d3, d4, rfl⟩, hRok, gn, cn, ?_⟩⟩
        show PB S w0 jb b dd lo s sz k nv kv ns r x (D 6) (D 7) _ w2 gn cn
        rw [h6, h7]
        exact { df := (by rw [put_defers]; exact h.df), sz_ := (by rw [put_size]; exact h.sz_), t0 := (by rw [get_other _ _ (by omega)]; exact h.t0), rd := (blk b hrd.lt hbk).trans hrd, s5 := (by rw [get_same _ _ (by rw [h.sz_]; omega)]), row := hrow, wh := wh2, s6 := fun e => (nomatch e), hjb := (blk jb (lt_of_heap hjb') hjk).trans hjb', fr := (h.fr.mono (Nat.le_refl _) (fun k _ hk => (by simp at hk; simp [hk]))).trans ⟨hgr.os, hgr.tape, hgr.output, hgr.size, fun g hg hn => blk g (by omega) (fun e => hn (by simp [e]))⟩ }
      · exfalso
        have : D 5 = true := by
          have h7' : i = 6 ∨ i = 7 := by omega
          rcases h7' with rfl | rfl
          · obtain rfl : o = { dst := some (s + 6), op := .fieldAddr 25 (.tmp 0) 2, type := 0, pos := pos, after := #[{ on := 0, ground := .phase }, { on := 1, ground := .phase }, { on := 2, ground := .phase }, { on := 3, ground := .phase }, { on := 4, ground := .phase }, { on := 5, ground := .phase }], guard := none } := (Option.some.inj hoi).symm
            exact hdep { on := 5, ground := .phase } (by simp) rfl
          · obtain rfl : o = { dst := none, op := .store 22 (.tmp (s + 6)) (.tmp (s + 5)), type := 0, pos := pos, after := #[{ on := 6, ground := .data }, { on := 5, ground := .data }, { on := 5, ground := .chain }, { on := 0, ground := .phase }, { on := 1, ground := .phase }, { on := 2, ground := .phase }, { on := 3, ground := .phase }, { on := 4, ground := .phase }, { on := 5, ground := .phase }], guard := none } := (Option.some.inj hoi).symm
            exact hdep { on := 5, ground := .phase } (by simp) rfl
        rw [h5] at this
        cases this
    · have hge : 6 ≤ i := by
        rcases Nat.lt_or_ge i 6 with hlt | hge
        · exfalso
          have : D i = true := by
            have : i = 0 ∨ i = 1 ∨ i = 2 ∨ i = 3 ∨ i = 4 ∨ i = 5 := by omega
            rcases this with rfl | rfl | rfl | rfl | rfl | rfl <;> assumption
          rw [hDi] at this
          cases this
        · exact hge
      have hgj : gn ≠ jb := fun e => by
        rcases h.wh with e2 | e2
        · have := acc.hnb gn e2; omega
        · omega
      by_cases e6 : i = 6
      · subst e6
        obtain rfl : o = { dst := some (s + 6), op := .fieldAddr 25 (.tmp 0) 2, type := 0, pos := pos, after := #[{ on := 0, ground := .phase }, { on := 1, ground := .phase }, { on := 2, ground := .phase }, { on := 3, ground := .phase }, { on := 4, ground := .phase }, { on := 5, ground := .phase }], guard := none } := (Option.some.inj hoi).symm
        refine wpOp_run hoi rfl _ (run_fa2 (.tmp 0) jb rfl h.t0) ?_
        exact ⟨T1 _ _ (by omega), Or.inr ⟨⟨g0, g1, g2, g3, g4, g5⟩, hRok, gn, cn, { df := (by rw [put_defers]; exact h.df), sz_ := (by rw [put_size]; exact h.sz_), t0 := (by rw [get_other _ _ (by omega)]; exact h.t0), rd := h.rd, s5 := (by rw [get_other _ _ (by omega)]; exact h.s5), row := h.row, wh := h.wh, s6 := fun _ => (by rw [get_same _ _ (by rw [h.sz_]; omega)]), hjb := h.hjb, fr := h.fr }⟩⟩
      · obtain rfl : i = 7 := by omega
        obtain rfl : o = { dst := none, op := .store 22 (.tmp (s + 6)) (.tmp (s + 5)), type := 0, pos := pos, after := #[{ on := 6, ground := .data }, { on := 5, ground := .data }, { on := 5, ground := .chain }, { on := 0, ground := .phase }, { on := 1, ground := .phase }, { on := 2, ground := .phase }, { on := 3, ground := .phase }, { on := 4, ground := .phase }, { on := 5, ground := .phase }], guard := none } := (Option.some.inj hoi).symm
        have d6 : D 6 = true := hdep { on := 6, ground := .data } (by simp) rfl
        have hjb2 := h.hjb
        rw [hDi] at hjb2
        simp only [Bool.false_eq_true, if_false] at hjb2
        refine wpOp_skip hoi rfl rfl (run_st2 (.tmp (s + 6)) (.tmp (s + 5)) jb 2 (some ⟨gn, 0, none⟩) (ns.length + 1) cn nv rfl (h.s6 d6) h.s5 (by rw [cell_of_list hjb2]; rfl) (free_of_list hjb2 2)) ?_
        have blk : ∀ g, g ≠ jb → (w'.setCell ⟨jb, 2, none⟩ (.slice (some ⟨gn, 0, none⟩) (ns.length + 1) cn)).heap[g]? = w'.heap[g]? := fun g hg => heap_setCell_other _ _ _ _ (fun e => hg e)
        refine ⟨hg1, Or.inr ⟨⟨g0, g1, g2, g3, g4, g5⟩, hRok, gn, cn, ?_⟩⟩
        exact { df := h.df, sz_ := h.sz_, t0 := h.t0, rd := (blk b (Ne.symm hjbn)).trans h.rd, s5 := h.s5, row := ownsRow_frame h.row (fun g hg => blk g (fun e => hgj (by have : gn = g := (by simpa [Value.ownBlock] using hg); omega))), wh := h.wh, s6 := h.s6, hjb := set_list hjb2 2 _, fr := (h.fr.setCell (p := ⟨jb, 2, none⟩) (Or.inl (by simp)) _) }
  · intro D a' w' hI hall
    have hszo : (nameOps s pos).size = 8 := rfl
    obtain ⟨hg1, hI⟩ := hI
    rcases hI with ⟨h5, _⟩ | ⟨_, hRok, gn, cn, h⟩
    · rw [hall 5 (by rw [hszo]; omega)] at h5
      cases h5
    · rw [hall 6 (by rw [hszo]; omega), hall 7 (by rw [hszo]; omega)] at h
      have hrow := h.row
      have hjb2 := h.hjb
      simp only [if_true] at hjb2
      have hsz0 := h.fr.size
      have hgl : lo ≤ gn ∧ gn < w'.heap.size := by
        obtain ⟨cur, fr, hg⟩ := own_block hrow (g := gn) rfl
        refine ⟨?_, lt_of_heap hg⟩
        rcases h.wh with e2 | e2
        · exact (acc.hnb gn e2).1
        · omega
      refine hok x r hRok a' w' _ h.df h.sz_ h.t0 hg1 ⟨hjb2, ?_, ⟨_, _, acc.name (hi' := w'.heap.size) x (by rw [List.length_append, List.map_append]; exact hrow) (fun g h1 h2 h3 => h.fr.block g h2 ?_) ?_ hsz0 hlo⟩, Nat.le_trans hlo hsz0, hjl, hrl, hbl, hjr, hjbn, hrbn⟩ h.rd ?_
      · exact h.fr.heap hrb (by omega) (by simp; exact ⟨hrbn, Ne.symm hjr, fun e => by have := acc.hnb rb e; omega⟩)
      · simp
        exact ⟨by omega, by omega, h3⟩
      · rcases h.wh with e2 | e2
        · exact Or.inl (by rw [e2]; rfl)
        · refine Or.inr fun g hg => ?_
          obtain rfl : gn = g := by simpa [Value.ownBlock] using hg
          exact ⟨e2, hgl.2⟩
      · refine h.fr.mono hlo (fun g hg hm => ?_)
        simp only [List.mem_cons, Option.mem_toList] at hm
        rcases hm with rfl | rfl | hm
        · simp
        · simp
        · have := acc.hnb g hm; omega
end Go.Proofs.YthfnlnhehececaaDoor
