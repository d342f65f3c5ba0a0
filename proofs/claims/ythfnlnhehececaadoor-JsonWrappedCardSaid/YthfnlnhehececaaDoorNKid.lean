/- The region in which a list or an object pushes the value that it reads: whatever its order. -/
import Derived.Test.YthfnlnhehececaaDoorNPush
namespace Go.Proofs.YthfnlnhehececaaDoor
open Go Go.RowKit

def kidOps (s : Nat) (pos : String) : Array Oper := #[
  { dst := some s, op := .fieldAddr 25 (.tmp 0) 3, type := 0, pos := pos, after := #[], guard := none },
  { dst := some (s + 1), op := .load 23 (.tmp s), type := 23, pos := pos, after := #[{ on := 0, ground := .data }], guard := none },
  { dst := some (s + 2), op := .load 87 (.tmp 1), type := 87, pos := pos, after := #[], guard := none },
  { dst := some (s + 3), op := .call { callee := .value (.func 39), args := #[.tmp (s + 2)], argTypes := #[87] }, type := 25, pos := pos, after := #[{ on := 2, ground := .data }], guard := none },
  { dst := some (s + 4), op := .call { callee := .builtin .len, args := #[.tmp (s + 1)], argTypes := #[23] }, type := 3, pos := pos, after := #[{ on := 1, ground := .data }], guard := none },
  { dst := some (s + 5), op := .buildSlice 23 1 #[(0, .const (.agg #[.int .i64 0, .string ⟨#[]⟩, .slice none 0 0, .slice none 0 0]))], type := 23, pos := pos, after := #[], guard := none },
  { dst := some (s + 6), op := .call { callee := .builtin .append, args := #[.tmp (s + 1), .tmp (s + 5)], argTypes := #[23, 23] }, type := 23, pos := pos,
    after := #[{ on := 1, ground := .data }, { on := 5, ground := .data }, { on := 3, ground := .chain }, { on := 0, ground := .phase }, { on := 1, ground := .phase }, { on := 2, ground := .phase }, { on := 3, ground := .phase }, { on := 4, ground := .phase }, { on := 5, ground := .phase }], guard := none },
  { dst := some (s + 7), op := .indexAddr 23 (.tmp (s + 6)) (.tmp (s + 4)), type := 0, pos := pos,
    after := #[{ on := 6, ground := .data }, { on := 4, ground := .data }, { on := 0, ground := .phase }, { on := 1, ground := .phase }, { on := 2, ground := .phase }, { on := 3, ground := .phase }, { on := 4, ground := .phase }, { on := 5, ground := .phase }, { on := 6, ground := .phase }, { on := 10, ground := .gcOnly .appendInPlace }], guard := none },
  { dst := none, op := .store 25 (.tmp (s + 7)) (.tmp (s + 3)), type := 0, pos := pos,
    after := #[{ on := 7, ground := .data }, { on := 3, ground := .data }, { on := 6, ground := .chain }, { on := 0, ground := .phase }, { on := 1, ground := .phase }, { on := 2, ground := .phase }, { on := 3, ground := .phase }, { on := 4, ground := .phase }, { on := 5, ground := .phase }, { on := 6, ground := .phase }, { on := 10, ground := .gcOnly .appendInPlace }], guard := none },
  { dst := some (s + 8), op := .fieldAddr 25 (.tmp 0) 3, type := 0, pos := pos,
    after := #[{ on := 0, ground := .phase }, { on := 1, ground := .phase }, { on := 2, ground := .phase }, { on := 3, ground := .phase }, { on := 4, ground := .phase }, { on := 5, ground := .phase }, { on := 6, ground := .phase }, { on := 7, ground := .textOnly .appendInPlace }, { on := 8, ground := .textOnly .appendInPlace }], guard := none },
  { dst := none, op := .store 23 (.tmp (s + 8)) (.tmp (s + 6)), type := 0, pos := pos,
    after := #[{ on := 9, ground := .data }, { on := 6, ground := .data }, { on := 6, ground := .chain }, { on := 8, ground := .textOnly .appendInPlace }, { on := 0, ground := .phase }, { on := 1, ground := .phase }, { on := 2, ground := .phase }, { on := 3, ground := .phase }, { on := 4, ground := .phase }, { on := 5, ground := .phase }, { on := 6, ground := .phase }, { on := 7, ground := .textOnly .appendInPlace }, { on := 8, ground := .textOnly .appendInPlace }], guard := none }]
/-- What is laid down for a list or an object that is being read. -/
structure St (jb rb b lo : Nat) (k : Int) (nv kv : Value) (ns : List (List UInt8)) (ks : List Js.J) (w : World) : Prop where
  jb_ : w.heap[jb]? = some (.cells (jrow k [] nv kv).toArray 25 (0, 0))
  rb_ : w.heap[rb]? = some (.cells [Value.pointer (some ⟨b, 0, none⟩)].toArray 87 (0, 0))
  acc : ∃ vs iv, Acc w lo w.heap.size nv kv ns ks vs iv
  lo_ : lo ≤ w.heap.size
  jl : jb < lo
  rl : rb < lo
  bl : b < lo
  jr : jb ≠ rb
  jbn : jb ≠ b
  rbn : rb ≠ b
section
variable (S : List UInt8) (w0 : World) (jb rb b q dd lo s sz n : Nat) (k : Int) (nv kv : Value) (vs : List Value) (r : List UInt8) (j : Js.J) (R : Js.Rs Js.J)
structure P1 (d0 d1 d2 d3 d4 d5 : Bool) (a : Act) (w : World) (nb x y : Nat) (v : Value) : Prop where
  df : a.defers = []
  sz_ : a.tmps.size = sz
  t0 : a.tmps.getD 0 undef = .pointer (some ⟨jb, 0, none⟩)
  t1 : a.tmps.getD 1 undef = .pointer (some ⟨rb, 0, none⟩)
  s0 : d0 = true → a.tmps.getD s undef = .pointer (some ⟨jb, 3, none⟩)
  s1 : d1 = true → a.tmps.getD (s + 1) undef = kv
  s2 : d2 = true → a.tmps.getD (s + 2) undef = .pointer (some ⟨b, 0, none⟩)
  s3 : d3 = true → a.tmps.getD (s + 3) undef = v ∧ Own w x y j v ∧ w0.heap.size ≤ x ∧ x ≤ y ∧ y ≤ w.heap.size ∧ Rd w b (bs S) (S.length - r.length) dd
  n3 : d3 = false → Rd w b (bs S) q dd
  ok3 : d3 = true → R = .ok j r
  s4 : d4 = true → a.tmps.getD (s + 4) undef = .int .i64 n
  s5 : d5 = true → a.tmps.getD (s + 5) undef = .slice (some ⟨nb, 0, none⟩) 1 1 ∧ w.heap[nb]? = some (.cells noRow.toArray 25 (0, 0)) ∧ nb ≠ b
  fr : Kept w0.heap.size [b] w0 w
  tb : Tb w
structure P2 (d7 d8 d9 d10 : Bool) (a : Act) (w : World) (x y : Nat) (v : Value) (gk ck : Nat) : Prop where
  df : a.defers = []
  sz_ : a.tmps.size = sz
  t0 : a.tmps.getD 0 undef = .pointer (some ⟨jb, 0, none⟩)
  s3 : a.tmps.getD (s + 3) undef = v
  own : Own w x y j v
  hx : w0.heap.size ≤ x
  hxy : x ≤ y
  hy : y ≤ w.heap.size
  rd : Rd w b (bs S) (S.length - r.length) dd
  s6 : a.tmps.getD (s + 6) undef = .slice (some ⟨gk, 0, none⟩) (n + 1) ck
  s4 : a.tmps.getD (s + 4) undef = .int .i64 n
  row : w.ownsRow lo 25 4 (.slice (some ⟨gk, 0, none⟩) (n + 1) ck) (n + 1) (flat vs ++ if d8 then partsV v else noRow)
  wh : kv.ownBlock = some gk ∨ w0.heap.size ≤ gk
  nx : ¬ (x ≤ gk ∧ gk < y)
  s7 : d7 = true → a.tmps.getD (s + 7) undef = .pointer (some ⟨gk, 4 * n, none⟩)
  s9 : d9 = true → a.tmps.getD (s + 8) undef = .pointer (some ⟨jb, 3, none⟩)
  hjb : w.heap[jb]? = some (.cells (jrow k [] nv (if d10 then .slice (some ⟨gk, 0, none⟩) (n + 1) ck else kv)).toArray 25 (0, 0))
  fr : Kept w0.heap.size (b :: jb :: kv.ownBlock.toList) w0 w
end
set_option maxHeartbeats 4000000 in
theorem kid_region (S : List UInt8) (jb rb b q dd lo s sz : Nat) (k : Int) (nv kv : Value) (ns : List (List UInt8)) (ks : List Js.J) (R : Js.Rs Js.J) (Q : Exit → Act → World → Prop) (id : Nat) (pos : String) (a : Act) (w0 : World)
    (hst : St jb rb b lo k nv kv ns ks w0) (hks : ks.length ≤ 8000) (hb : Hi b) (hT : Tb w0) (hr : Rd w0 b (bs S) q dd) (hd : a.defers = []) (hsz : a.tmps.size = sz) (hs2 : 2 ≤ s) (hs9 : s + 9 ≤ sz)
    (ht0 : a.tmps.getD 0 undef = .pointer (some ⟨jb, 0, none⟩)) (ht1 : a.tmps.getD 1 undef = .pointer (some ⟨rb, 0, none⟩))
    (hc : ∀ v, Rd v b (bs S) q dd → Tb v → Calls Tryd.prog 39 #[.pointer (some ⟨b, 0, none⟩)] v (Out b S dd v (Made v) R))
    (hbad : ∀ c r, R = .bad c r → ∀ a w', a.defers = [] → Kept w0.heap.size [b] w0 w' → Q (.panic (rfc c (S.length - r.length))) a w')
    (hok : ∀ j r, R = .ok j r → ∀ a w' kv', a.defers = [] → St jb rb b lo k nv kv' ns (ks ++ [j]) w' → Rd w' b (bs S) (S.length - r.length) dd → Kept lo [b, jb] w0 w' → Q .normal a w') :
    (Code.region id (kidOps s pos) true).wp Tryd.prog Q a w0 := by
  obtain ⟨hjb, hrb, ⟨vs, iv, acc⟩, hlo, hjl, hrl, hbl, hjr, hjbn, hrbn⟩ := hst
  have hvl := acc.hl
  obtain ⟨j, r, hjr2⟩ : ∃ j r, R = .ok j r ∨ ∃ c q, R = .bad c q := by
    cases R with
    | ok j r => exact ⟨j, r, Or.inl rfl⟩
    | bad c r => exact ⟨.mk 0 [] [] [], [], Or.inr ⟨c, r, rfl⟩⟩
  have einv : ∀ args w, (callFunc 39 args).run Tryd.prog w = .ok (.enter 39 args) w := enters_of Tryd.func39 (by kernel_rfl) rfl
  refine wp_region_inv (by kernel_rfl) (by kernel_rfl) (fun D a' w' => (D 6 = false ∧ D 7 = false ∧ D 8 = false ∧ D 9 = false ∧ D 10 = false ∧ ∃ nb x y v, P1 S w0 jb rb b q dd s sz vs.length kv r j R (D 0) (D 1) (D 2) (D 3) (D 4) (D 5) a' w' nb x y v) ∨
    ((D 0 = true ∧ D 1 = true ∧ D 2 = true ∧ D 3 = true ∧ D 4 = true ∧ D 5 = true ∧ D 6 = true) ∧ R = .ok j r ∧ ∃ x y v gk ck, P2 S w0 jb b dd lo s sz vs.length k nv kv vs r j (D 7) (D 8) (D 9) (D 10) a' w' x y v gk ck)) ?_ ?_ ?_
  · exact Or.inl ⟨rfl, rfl, rfl, rfl, rfl, 0, 0, 0, .nilFunc, { df := hd, sz_ := hsz, t0 := ht0, t1 := ht1, s0 := fun e => (nomatch e), s1 := fun e => (nomatch e), s2 := fun e => (nomatch e), s3 := fun e => (nomatch e), n3 := fun _ => hr, ok3 := fun e => (nomatch e), s4 := fun e => (nomatch e), s5 := fun e => (nomatch e), fr := (Kept.refl _ _ _).drew, tb := hT }⟩
  · intro D a' w' i o hI hoi hDi hdep
    have hi : i < 11 := (Array.getElem?_eq_some_iff.1 hoi).1
    have bsz : s + 9 ≤ sz := hs9
    rcases hI with ⟨h6, h7, h8, h9, h10, nb, x, y, v, h⟩ | ⟨⟨g0, g1, g2, g3, g4, g5, g6⟩, hRok, x, y, v, gk, ck, h⟩
    · have hjb' : w'.heap[jb]? = some (.cells (jrow k [] nv kv).toArray 25 (0, 0)) := h.fr.heap hjb (by omega) (by simp; omega)
      have hrb' : w'.heap[rb]? = some (.cells [Value.pointer (some ⟨b, 0, none⟩)].toArray 87 (0, 0)) := h.fr.heap hrb (by omega) (by simp; omega)
      by_cases e0 : i = 0
      · subst e0
        obtain rfl : o = { dst := some s, op := .fieldAddr 25 (.tmp 0) 3, type := 0, pos := pos, after := #[], guard := none } := (Option.some.inj hoi).symm
        refine wpOp_run hoi rfl _ (run_fa3 (.tmp 0) jb rfl h.t0) ?_
        exact Or.inl ⟨h6, h7, h8, h9, h10, nb, x, y, v, { df := (by rw [put_defers]; exact h.df), sz_ := (by rw [put_size]; exact h.sz_), t0 := (by rw [get_other _ _ (by omega)]; exact h.t0), t1 := (by rw [get_other _ _ (by omega)]; exact h.t1), s0 := fun _ => by rw [get_same _ _ (by rw [h.sz_]; omega)], s1 := fun e => (by rw [get_other _ _ (by omega)]; exact h.s1 e), s2 := fun e => (by rw [get_other _ _ (by omega)]; exact h.s2 e), s3 := fun e => (by rw [get_other _ _ (by omega)]; exact h.s3 e), s4 := fun e => (by rw [get_other _ _ (by omega)]; exact h.s4 e), s5 := fun e => (by rw [get_other _ _ (by omega)]; exact h.s5 e), n3 := h.n3, ok3 := h.ok3, fr := h.fr, tb := h.tb }⟩
      by_cases e1 : i = 1
      · subst e1
        obtain rfl : o = { dst := some (s + 1), op := .load 23 (.tmp s), type := 23, pos := pos, after := #[{ on := 0, ground := .data }], guard := none } := (Option.some.inj hoi).symm
        have d0 : D 0 = true := hdep { on := 0, ground := .data } (by simp) rfl
        refine wpOp_run hoi rfl _ (run_ld 23 (.tmp s) jb 3 kv (by intro w; kernel_rfl) rfl (h.s0 d0) (by rw [cell_of_list hjb']; rfl)) ?_
        exact Or.inl ⟨h6, h7, h8, h9, h10, nb, x, y, v, { df := (by rw [put_defers]; exact h.df), sz_ := (by rw [put_size]; exact h.sz_), t0 := (by rw [get_other _ _ (by omega)]; exact h.t0), t1 := (by rw [get_other _ _ (by omega)]; exact h.t1), s0 := fun e => (by rw [get_other _ _ (by omega)]; exact h.s0 e), s1 := fun _ => by rw [get_same _ _ (by rw [h.sz_]; omega)], s2 := fun e => (by rw [get_other _ _ (by omega)]; exact h.s2 e), s3 := fun e => (by rw [get_other _ _ (by omega)]; exact h.s3 e), s4 := fun e => (by rw [get_other _ _ (by omega)]; exact h.s4 e), s5 := fun e => (by rw [get_other _ _ (by omega)]; exact h.s5 e), n3 := h.n3, ok3 := h.ok3, fr := h.fr, tb := h.tb }⟩
      by_cases e2 : i = 2
      · subst e2
        obtain rfl : o = { dst := some (s + 2), op := .load 87 (.tmp 1), type := 87, pos := pos, after := #[], guard := none } := (Option.some.inj hoi).symm
        refine wpOp_run hoi rfl _ (run_ld 87 (.tmp 1) rb 0 (.pointer (some ⟨b, 0, none⟩)) (by intro w; kernel_rfl) rfl h.t1 (by rw [cell_of_list hrb']; rfl)) ?_
        exact Or.inl ⟨h6, h7, h8, h9, h10, nb, x, y, v, { df := (by rw [put_defers]; exact h.df), sz_ := (by rw [put_size]; exact h.sz_), t0 := (by rw [get_other _ _ (by omega)]; exact h.t0), t1 := (by rw [get_other _ _ (by omega)]; exact h.t1), s0 := fun e => (by rw [get_other _ _ (by omega)]; exact h.s0 e), s1 := fun e => (by rw [get_other _ _ (by omega)]; exact h.s1 e), s2 := fun _ => by rw [get_same _ _ (by rw [h.sz_]; omega)], s3 := fun e => (by rw [get_other _ _ (by omega)]; exact h.s3 e), s4 := fun e => (by rw [get_other _ _ (by omega)]; exact h.s4 e), s5 := fun e => (by rw [get_other _ _ (by omega)]; exact h.s5 e), n3 := h.n3, ok3 := h.ok3, fr := h.fr, tb := h.tb }⟩
      by_cases e3 : i = 3
      · subst e3
        obtain rfl : o = { dst := some (s + 3), op := .call { callee := .value (.func 39), args := #[.tmp (s + 2)], argTypes := #[87] }, type := 25, pos := pos, after := #[{ on := 2, ground := .data }], guard := none } := (Option.some.inj hoi).symm
        have d2 : D 2 = true := hdep { on := 2, ground := .data } (by simp) rfl
        refine wpOp_call hoi rfl 39 _ (run_cl 87 39 (.tmp (s + 2)) _ einv rfl (h.s2 d2) rfl) ?_
        refine (hc w' (h.n3 hDi) h.tb).mono fun e w2 he => ?_
        cases hR : R with
        | bad c r' =>
          rw [hR] at he
          obtain ⟨rfl, hk2⟩ := he
          exact Or.inr ⟨_, rfl, hbad c r' hR a' w2 h.df (kk h.fr hk2)⟩
        | ok j' r' =>
          rw [hR] at he hjr2
          obtain ⟨rfl, rfl⟩ : j' = j ∧ r' = r := by
            rcases hjr2 with hj | ⟨c, q, hj⟩
            · injection hj with h1 h2; exact ⟨h1, h2⟩
            · cases hj
          obtain ⟨v2, rfl, hown, hrd, hk2⟩ := he
          have hown : Own w2 w'.heap.size w2.heap.size j' v2 := hown
          refine Or.inl ⟨v2, rfl, ?_⟩
          exact Or.inl ⟨h6, h7, h8, h9, h10, nb, w'.heap.size, w2.heap.size, v2, { df := (by rw [put_defers]; exact h.df), sz_ := (by rw [put_size]; exact h.sz_), t0 := (by rw [get_other _ _ (by omega)]; exact h.t0), t1 := (by rw [get_other _ _ (by omega)]; exact h.t1), s0 := fun e => (by rw [get_other _ _ (by omega)]; exact h.s0 e), s1 := fun e => (by rw [get_other _ _ (by omega)]; exact h.s1 e), s2 := fun e => (by rw [get_other _ _ (by omega)]; exact h.s2 e), s3 := fun _ => ⟨by rw [get_same _ _ (by rw [h.sz_]; omega)], hown, h.fr.size, hk2.size, Nat.le_refl _, hrd⟩, s4 := fun e => (by rw [get_other _ _ (by omega)]; exact h.s4 e), s5 := fun e => (by rw [get_other _ _ (by omega)]; have := h.s5 e; exact ⟨this.1, (hk2.block nb (lt_of_heap this.2.1) (by simp; exact this.2.2)).trans this.2.1, this.2.2⟩), n3 := fun e => (nomatch e), ok3 := fun _ => rfl, fr := kk h.fr hk2, tb := h.tb.keep hb hk2 }⟩
      by_cases e4 : i = 4
      · subst e4
        obtain rfl : o = { dst := some (s + 4), op := .call { callee := .builtin .len, args := #[.tmp (s + 1)], argTypes := #[23] }, type := 3, pos := pos, after := #[{ on := 1, ground := .data }], guard := none } := (Option.some.inj hoi).symm
        have d1 : D 1 = true := hdep { on := 1, ground := .data } (by simp) rfl
        obtain ⟨ad, c, hkv⟩ : ∃ ad c, kv = .slice ad vs.length c := by
          rcases acc.hk.2 with ⟨e, hz⟩ | ⟨g, cap, cur, e, _⟩
          · rw [hz]; exact ⟨none, 0, e⟩
          · exact ⟨_, cap, e⟩
        refine wpOp_run hoi rfl _ (run_ln (.tmp (s + 1)) ad vs.length c rfl ((h.s1 d1).trans hkv)) ?_
        exact Or.inl ⟨h6, h7, h8, h9, h10, nb, x, y, v, { df := (by rw [put_defers]; exact h.df), sz_ := (by rw [put_size]; exact h.sz_), t0 := (by rw [get_other _ _ (by omega)]; exact h.t0), t1 := (by rw [get_other _ _ (by omega)]; exact h.t1), s0 := fun e => (by rw [get_other _ _ (by omega)]; exact h.s0 e), s1 := fun e => (by rw [get_other _ _ (by omega)]; exact h.s1 e), s2 := fun e => (by rw [get_other _ _ (by omega)]; exact h.s2 e), s3 := fun e => (by rw [get_other _ _ (by omega)]; exact h.s3 e), s4 := fun _ => by rw [get_same _ _ (by rw [h.sz_]; omega)], s5 := fun e => (by rw [get_other _ _ (by omega)]; exact h.s5 e), n3 := h.n3, ok3 := h.ok3, fr := h.fr, tb := h.tb }⟩
      by_cases e5 : i = 5
      · subst e5
        obtain rfl : o = { dst := some (s + 5), op := .buildSlice 23 1 #[(0, .const (.agg #[.int .i64 0, .string ⟨#[]⟩, .slice none 0 0, .slice none 0 0]))], type := 23, pos := pos, after := #[], guard := none } := (Option.some.inj hoi).symm
        refine wpOp_run hoi rfl _ (run_bs1 (.const (.agg #[.int .i64 0, .string ⟨#[]⟩, .slice none 0 0, .slice none 0 0])) rfl rfl) ?_
        have hal : Below w'.heap.size w' (w'.alloc (.cells noRow.toArray 25)) := (Below.refl _ _).alloc (Nat.le_refl _) _
        have hbw : b < w'.heap.size := by have := h.fr.size; omega
        exact Or.inl ⟨h6, h7, h8, h9, h10, w'.heap.size, x, y, v, { df := (by rw [put_defers]; exact h.df), sz_ := (by rw [put_size]; exact h.sz_), t0 := (by rw [get_other _ _ (by omega)]; exact h.t0), t1 := (by rw [get_other _ _ (by omega)]; exact h.t1), s0 := fun e => (by rw [get_other _ _ (by omega)]; exact h.s0 e), s1 := fun e => (by rw [get_other _ _ (by omega)]; exact h.s1 e), s2 := fun e => (by rw [get_other _ _ (by omega)]; exact h.s2 e), s3 := fun e => (by rw [get_other _ _ (by omega)]; obtain ⟨a1, a2, a3, a4, a5, a6⟩ := h.s3 e; exact ⟨a1, a2.frame (fun g _ hg => hal.block g (by omega)), a3, a4, Nat.le_trans a5 hal.size, a6.below hal⟩), s4 := fun e => (by rw [get_other _ _ (by omega)]; exact h.s4 e), s5 := fun _ => ⟨by rw [get_same _ _ (by rw [h.sz_]; omega)], heap_alloc_new _ _, by omega⟩, n3 := fun e => (h.n3 e).below hal, ok3 := h.ok3, fr := kb h.fr hal, tb := h.tb.below hal }⟩
      by_cases e6 : i = 6
      · subst e6
        obtain rfl : o = { dst := some (s + 6), op := .call { callee := .builtin .append, args := #[.tmp (s + 1), .tmp (s + 5)], argTypes := #[23, 23] }, type := 23, pos := pos, after := #[{ on := 1, ground := .data }, { on := 5, ground := .data }, { on := 3, ground := .chain }, { on := 0, ground := .phase }, { on := 1, ground := .phase }, { on := 2, ground := .phase }, { on := 3, ground := .phase }, { on := 4, ground := .phase }, { on := 5, ground := .phase }], guard := none } := (Option.some.inj hoi).symm
        have d0 : D 0 = true := hdep { on := 0, ground := .phase } (by simp) rfl
        have d1 : D 1 = true := hdep { on := 1, ground := .phase } (by simp) rfl
        have d2 : D 2 = true := hdep { on := 2, ground := .phase } (by simp) rfl
        have d3 : D 3 = true := hdep { on := 3, ground := .phase } (by simp) rfl
        have d4 : D 4 = true := hdep { on := 4, ground := .phase } (by simp) rfl
        have d5 : D 5 = true := hdep { on := 5, ground := .phase } (by simp) rfl
        have hRok : R = .ok j r := h.ok3 d3
        obtain ⟨e3v, hown, hx0, hxy, hyw, hrd⟩ := h.s3 d3
        obtain ⟨e5v, hnb, hnbb⟩ := h.s5 d5
        have hok' : w'.ownsRow lo 25 4 kv vs.length (flat vs) := ownsRow_frame acc.hk fun g hg => h.fr.block g (acc.hkb g hg).2 (by have := acc.hkb g hg; simp; omega)
        obtain ⟨gk, ck, w2, hrun, hrow, hgr, hwh⟩ := run_ap (o := { dst := some (s + 6), op := .call { callee := .builtin .append, args := #[.tmp (s + 1), .tmp (s + 5)], argTypes := #[23, 23] }, type := 23, pos := pos, after := #[{ on := 1, ground := .data }, { on := 5, ground := .data }, { on := 3, ground := .chain }, { on := 0, ground := .phase }, { on := 1, ground := .phase }, { on := 2, ground := .phase }, { on := 3, ground := .phase }, { on := 4, ground := .phase }, { on := 5, ground := .phase }], guard := none }) (ρ := a'.eval) (.tmp (s + 1)) (.tmp (s + 5)) lo kv vs.length (flat vs) ⟨nb, 0, none⟩ 1 noRow rfl (h.s1 d1) hok' e5v rfl (news_row hnb) (by intro u hu; simp only [noRow, List.mem_cons, List.not_mem_nil, or_false] at hu; rcases hu with rfl | rfl | rfl | rfl <;> rfl) (by omega) (by have := h.fr.size; omega)
        refine wpOp_run hoi rfl _ hrun ?_
        have hsz0 := h.fr.size
        have blk : ∀ g, g < w'.heap.size → kv.ownBlock ≠ some g → w2.heap[g]? = w'.heap[g]? := fun g hg hne => hgr.block g hg (fun e => hne e.symm)
        have hjk : kv.ownBlock ≠ some jb := fun e => by have := acc.hkb jb e; omega
        have hbk : kv.ownBlock ≠ some b := fun e => by have := acc.hkb b e; omega
        refine Or.inr ⟨⟨d0, d1, d2, d3, d4, d5, rfl⟩, hRok, x, y, v, gk, ck, ?_⟩
        have wh2 : kv.ownBlock = some gk ∨ w0.heap.size ≤ gk := by
          rcases hwh with e | e
          · exact Or.inl e
          · exact Or.inr (by omega)
        have nx2 : ¬ (x ≤ gk ∧ gk < y) := by
          rcases hwh with e | e
          · have := acc.hkb gk e; omega
          · omega
        show P2 S w0 jb b dd lo s sz vs.length k nv kv vs r j (D 7) (D 8) (D 9) (D 10) _ w2 x y v gk ck
        rw [h7, h8, h9, h10]
        exact { df := (by rw [put_defers]; exact h.df), sz_ := (by rw [put_size]; exact h.sz_), t0 := (by rw [get_other _ _ (by omega)]; exact h.t0), s3 := (by rw [get_other _ _ (by omega)]; exact e3v), own := hown.frame (fun g h1 h2 => blk g (by omega) (fun e => by have := acc.hkb g e; omega)), hx := hx0, hxy := hxy, hy := Nat.le_trans hyw hgr.size, rd := (blk b hrd.lt hbk).trans hrd, s6 := by rw [get_same _ _ (by rw [h.sz_]; omega)], s4 := (by rw [get_other _ _ (by omega)]; exact h.s4 d4), row := hrow, wh := wh2, nx := nx2, s7 := fun e => (nomatch e), s9 := fun e => (nomatch e), hjb := (blk jb (lt_of_heap hjb') hjk).trans hjb', fr := (h.fr.mono (Nat.le_refl _) (fun k _ hk => by simp at hk; simp [hk])).trans ⟨hgr.os, hgr.tape, hgr.output, hgr.size, fun g hg hn => blk g (by omega) (fun e => hn (by simp [e]))⟩ }
      · exfalso
        have : D 6 = true := by
          have h7' : i = 7 ∨ i = 8 ∨ i = 9 ∨ i = 10 := by omega
          rcases h7' with rfl | rfl | rfl | rfl
          · obtain rfl : o = { dst := some (s + 7), op := .indexAddr 23 (.tmp (s + 6)) (.tmp (s + 4)), type := 0, pos := pos, after := #[{ on := 6, ground := .data }, { on := 4, ground := .data }, { on := 0, ground := .phase }, { on := 1, ground := .phase }, { on := 2, ground := .phase }, { on := 3, ground := .phase }, { on := 4, ground := .phase }, { on := 5, ground := .phase }, { on := 6, ground := .phase }, { on := 10, ground := .gcOnly .appendInPlace }], guard := none } := (Option.some.inj hoi).symm
            exact hdep { on := 6, ground := .phase } (by simp) rfl
          · obtain rfl : o = { dst := none, op := .store 25 (.tmp (s + 7)) (.tmp (s + 3)), type := 0, pos := pos, after := #[{ on := 7, ground := .data }, { on := 3, ground := .data }, { on := 6, ground := .chain }, { on := 0, ground := .phase }, { on := 1, ground := .phase }, { on := 2, ground := .phase }, { on := 3, ground := .phase }, { on := 4, ground := .phase }, { on := 5, ground := .phase }, { on := 6, ground := .phase }, { on := 10, ground := .gcOnly .appendInPlace }], guard := none } := (Option.some.inj hoi).symm
            exact hdep { on := 6, ground := .phase } (by simp) rfl
          · obtain rfl : o = { dst := some (s + 8), op := .fieldAddr 25 (.tmp 0) 3, type := 0, pos := pos, after := #[{ on := 0, ground := .phase }, { on := 1, ground := .phase }, { on := 2, ground := .phase }, { on := 3, ground := .phase }, { on := 4, ground := .phase }, { on := 5, ground := .phase }, { on := 6, ground := .phase }, { on := 7, ground := .textOnly .appendInPlace }, { on := 8, ground := .textOnly .appendInPlace }], guard := none } := (Option.some.inj hoi).symm
            exact hdep { on := 6, ground := .phase } (by simp) rfl
          · obtain rfl : o = { dst := none, op := .store 23 (.tmp (s + 8)) (.tmp (s + 6)), type := 0, pos := pos, after := #[{ on := 9, ground := .data }, { on := 6, ground := .data }, { on := 6, ground := .chain }, { on := 8, ground := .textOnly .appendInPlace }, { on := 0, ground := .phase }, { on := 1, ground := .phase }, { on := 2, ground := .phase }, { on := 3, ground := .phase }, { on := 4, ground := .phase }, { on := 5, ground := .phase }, { on := 6, ground := .phase }, { on := 7, ground := .textOnly .appendInPlace }, { on := 8, ground := .textOnly .appendInPlace }], guard := none } := (Option.some.inj hoi).symm
            exact hdep { on := 6, ground := .phase } (by simp) rfl
        rw [h6] at this
        cases this
    · have hge : 7 ≤ i := by
        rcases Nat.lt_or_ge i 7 with hlt | hge
        · exfalso
          have : D i = true := by
            have : i = 0 ∨ i = 1 ∨ i = 2 ∨ i = 3 ∨ i = 4 ∨ i = 5 ∨ i = 6 := by omega
            rcases this with rfl | rfl | rfl | rfl | rfl | rfl | rfl <;> assumption
          rw [hDi] at this
          cases this
        · exact hge
      have hjk : kv.ownBlock ≠ some jb := fun e => by have := acc.hkb jb e; omega
      have hgj : gk ≠ jb := fun e => by
        rcases h.wh with e2 | e2
        · have := acc.hkb gk e2; omega
        · omega
      have hgb : gk ≠ b := fun e => by
        rcases h.wh with e2 | e2
        · have := acc.hkb gk e2; omega
        · omega
      have hgl : lo ≤ gk := by
        rcases h.wh with e2 | e2
        · exact (acc.hkb gk e2).1
        · omega
      have hfl : (flat vs).length = 4 * vs.length := by rw [flat_len acc.hf]; omega
      by_cases e7 : i = 7
      · subst e7
        obtain rfl : o = { dst := some (s + 7), op := .indexAddr 23 (.tmp (s + 6)) (.tmp (s + 4)), type := 0, pos := pos, after := #[{ on := 6, ground := .data }, { on := 4, ground := .data }, { on := 0, ground := .phase }, { on := 1, ground := .phase }, { on := 2, ground := .phase }, { on := 3, ground := .phase }, { on := 4, ground := .phase }, { on := 5, ground := .phase }, { on := 6, ground := .phase }, { on := 10, ground := .gcOnly .appendInPlace }], guard := none } := (Option.some.inj hoi).symm
        refine wpOp_run hoi rfl _ (run_ix (.tmp (s + 6)) (.tmp (s + 4)) gk vs.length ck rfl h.s6 h.s4) ?_
        exact Or.inr ⟨⟨g0, g1, g2, g3, g4, g5, g6⟩, hRok, x, y, v, gk, ck, { df := (by rw [put_defers]; exact h.df), sz_ := (by rw [put_size]; exact h.sz_), t0 := (by rw [get_other _ _ (by omega)]; exact h.t0), s3 := (by rw [get_other _ _ (by omega)]; exact h.s3), own := h.own, hx := h.hx, hxy := h.hxy, hy := h.hy, rd := h.rd, row := h.row, wh := h.wh, nx := h.nx, hjb := h.hjb, fr := h.fr, s6 := (by rw [get_other _ _ (by omega)]; exact h.s6), s4 := (by rw [get_other _ _ (by omega)]; exact h.s4), s7 := fun _ => (by rw [get_same _ _ (by rw [h.sz_]; omega)]), s9 := fun e => (by rw [get_other _ _ (by omega)]; exact h.s9 e) }⟩
      by_cases e8 : i = 8
      · subst e8
        obtain rfl : o = { dst := none, op := .store 25 (.tmp (s + 7)) (.tmp (s + 3)), type := 0, pos := pos, after := #[{ on := 7, ground := .data }, { on := 3, ground := .data }, { on := 6, ground := .chain }, { on := 0, ground := .phase }, { on := 1, ground := .phase }, { on := 2, ground := .phase }, { on := 3, ground := .phase }, { on := 4, ground := .phase }, { on := 5, ground := .phase }, { on := 6, ground := .phase }, { on := 10, ground := .gcOnly .appendInPlace }], guard := none } := (Option.some.inj hoi).symm
        have d7 : D 7 = true := hdep { on := 7, ground := .data } (by simp) rfl
        obtain ⟨cs, hv, hcs, h1, hpv⟩ := four_one h.own.four
        have hrow := h.row
        rw [hDi] at hrow
        simp only [Bool.false_eq_true, if_false] at hrow
        obtain ⟨hrow2, hth⟩ := own_set_last hrow hfl rfl (new := cs.toList) (by simp [hcs])
        refine wpOp_skip hoi rfl rfl (run_st4 (.tmp (s + 7)) (.tmp (s + 3)) gk (4 * vs.length) cs rfl (h.s7 d7) (h.s3.trans hv) hcs h1 hth) ?_
        have ks4 := kept_setCells w' gk (4 * vs.length) cs.toList
        have blk : ∀ g, g ≠ gk → (w'.setCells gk (4 * vs.length) cs.toList).heap[g]? = w'.heap[g]? := fun g hg => setCells_other hg _ _ _
        have hsz4 := setCells_size (g := gk) cs.toList (4 * vs.length) w'
        refine Or.inr ⟨⟨g0, g1, g2, g3, g4, g5, g6⟩, hRok, x, y, v, gk, ck, ?_⟩
        exact { df := h.df, sz_ := h.sz_, t0 := h.t0, s3 := h.s3, own := h.own.frame (fun g h1 h2 => blk g (fun e => h.nx ⟨by omega, by omega⟩)), hx := h.hx, hxy := h.hxy, hy := (by rw [hsz4]; exact h.hy), rd := (blk b (Ne.symm hgb)).trans h.rd, s6 := h.s6, s4 := h.s4, row := (by rw [← hpv]; exact hrow2), wh := h.wh, nx := h.nx, s7 := h.s7, s9 := h.s9, hjb := (blk jb (Ne.symm hgj)).trans h.hjb, fr := (h.fr.trans (ks4.mono h.fr.size (fun g hg hm => (by simp at hm; rcases h.wh with e2 | e2; (simp [hm, e2]); omega)))) }
      by_cases e9 : i = 9
      · subst e9
        obtain rfl : o = { dst := some (s + 8), op := .fieldAddr 25 (.tmp 0) 3, type := 0, pos := pos, after := #[{ on := 0, ground := .phase }, { on := 1, ground := .phase }, { on := 2, ground := .phase }, { on := 3, ground := .phase }, { on := 4, ground := .phase }, { on := 5, ground := .phase }, { on := 6, ground := .phase }, { on := 7, ground := .textOnly .appendInPlace }, { on := 8, ground := .textOnly .appendInPlace }], guard := none } := (Option.some.inj hoi).symm
        refine wpOp_run hoi rfl _ (run_fa3 (.tmp 0) jb rfl h.t0) ?_
        exact Or.inr ⟨⟨g0, g1, g2, g3, g4, g5, g6⟩, hRok, x, y, v, gk, ck, { df := (by rw [put_defers]; exact h.df), sz_ := (by rw [put_size]; exact h.sz_), t0 := (by rw [get_other _ _ (by omega)]; exact h.t0), s3 := (by rw [get_other _ _ (by omega)]; exact h.s3), own := h.own, hx := h.hx, hxy := h.hxy, hy := h.hy, rd := h.rd, row := h.row, wh := h.wh, nx := h.nx, hjb := h.hjb, fr := h.fr, s6 := (by rw [get_other _ _ (by omega)]; exact h.s6), s4 := (by rw [get_other _ _ (by omega)]; exact h.s4), s7 := fun e => (by rw [get_other _ _ (by omega)]; exact h.s7 e), s9 := fun _ => (by rw [get_same _ _ (by rw [h.sz_]; omega)]) }⟩
      · obtain rfl : i = 10 := by omega
        obtain rfl : o = { dst := none, op := .store 23 (.tmp (s + 8)) (.tmp (s + 6)), type := 0, pos := pos, after := #[{ on := 9, ground := .data }, { on := 6, ground := .data }, { on := 6, ground := .chain }, { on := 8, ground := .textOnly .appendInPlace }, { on := 0, ground := .phase }, { on := 1, ground := .phase }, { on := 2, ground := .phase }, { on := 3, ground := .phase }, { on := 4, ground := .phase }, { on := 5, ground := .phase }, { on := 6, ground := .phase }, { on := 7, ground := .textOnly .appendInPlace }, { on := 8, ground := .textOnly .appendInPlace }], guard := none } := (Option.some.inj hoi).symm
        have d9 : D 9 = true := hdep { on := 9, ground := .data } (by simp) rfl
        have hjb2 := h.hjb
        rw [hDi] at hjb2
        simp only [Bool.false_eq_true, if_false] at hjb2
        refine wpOp_skip hoi rfl rfl (run_st1 (.tmp (s + 8)) (.tmp (s + 6)) jb 3 (some ⟨gk, 0, none⟩) (vs.length + 1) ck kv rfl (h.s9 d9) h.s6 (by rw [cell_of_list hjb2]; rfl) (free_of_list hjb2 3)) ?_
        have blk : ∀ g, g ≠ jb → (w'.setCell ⟨jb, 3, none⟩ (.slice (some ⟨gk, 0, none⟩) (vs.length + 1) ck)).heap[g]? = w'.heap[g]? := fun g hg => heap_setCell_other _ _ _ _ (fun e => hg e)
        have hsz4 : (w'.setCell ⟨jb, 3, none⟩ (.slice (some ⟨gk, 0, none⟩) (vs.length + 1) ck)).heap.size = w'.heap.size := by simp [World.setCell]
        refine Or.inr ⟨⟨g0, g1, g2, g3, g4, g5, g6⟩, hRok, x, y, v, gk, ck, ?_⟩
        exact { df := h.df, sz_ := h.sz_, t0 := h.t0, s3 := h.s3, own := h.own.frame (fun g h1 h2 => blk g (fun e => by have := h.hx; omega)), hx := h.hx, hxy := h.hxy, hy := (by rw [hsz4]; exact h.hy), rd := (blk b (Ne.symm hjbn)).trans h.rd, s6 := h.s6, s4 := h.s4, row := ownsRow_frame h.row (fun g hg => blk g (fun e => hgj (by have : gk = g := (by simpa [Value.ownBlock] using hg); omega))), wh := h.wh, nx := h.nx, s7 := h.s7, s9 := h.s9, hjb := set_list hjb2 3 _, fr := (h.fr.setCell (p := ⟨jb, 3, none⟩) (Or.inl (by simp)) _) }
  · intro D a' w' hI hall
    have hszo : (kidOps s pos).size = 11 := rfl
    rcases hI with ⟨h6, _⟩ | ⟨_, hRok, x, y, v, gk, ck, h⟩
    · rw [hall 6 (by rw [hszo]; omega)] at h6
      cases h6
    · rw [hall 7 (by rw [hszo]; omega), hall 8 (by rw [hszo]; omega), hall 9 (by rw [hszo]; omega), hall 10 (by rw [hszo]; omega)] at h
      have hrow := h.row
      have hjb2 := h.hjb
      simp only [if_true] at hrow hjb2
      have hsz0 := h.fr.size
      have hgl : lo ≤ gk ∧ gk < w'.heap.size := by
        obtain ⟨cur, fr, hg⟩ := own_block hrow (g := gk) rfl
        refine ⟨?_, lt_of_heap hg⟩
        rcases h.wh with e2 | e2
        · exact (acc.hkb gk e2).1
        · omega
      refine hok j r hRok a' w' _ h.df ⟨hjb2, ?_, ⟨_, _, acc.kid (hi' := w'.heap.size) hrow (fun g h1 h2 h3 => h.fr.block g h2 ?_) h.own h.hx h.hy ?_ hsz0 hlo⟩, Nat.le_trans hlo hsz0, hjl, hrl, hbl, hjr, hjbn, hrbn⟩ h.rd ?_
      · exact h.fr.heap hrb (by omega) (by simp; exact ⟨hrbn, Ne.symm hjr, fun e => by have := acc.hkb rb e; omega⟩)
      · simp
        exact ⟨by omega, by omega, h3⟩
      · rcases h.wh with e2 | e2
        · exact Or.inl (by rw [e2]; rfl)
        · refine Or.inr fun g hg => ?_
          obtain rfl : gk = g := by simpa [Value.ownBlock] using hg
          exact ⟨e2, hgl.2, h.nx⟩
      · refine h.fr.mono hlo (fun g hg hm => ?_)
        simp only [List.mem_cons, Option.mem_toList] at hm
        rcases hm with rfl | rfl | hm
        · simp
        · simp
        · have := acc.hkb g hm; omega
end Go.Proofs.YthfnlnhehececaaDoor
