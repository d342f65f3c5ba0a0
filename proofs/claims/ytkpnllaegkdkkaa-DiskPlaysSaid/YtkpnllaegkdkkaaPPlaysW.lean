/- The walk of the statement DiskPlays. -/
import Derived.Test.YtkpnllaegkdkkaaPStepAll
import Derived.Test.YtkpnllaegkdkkaaDKnown
namespace Go.Proofs.Ytkpnllaegkdkkaa
open Go.RowKit

/-- A step that is handed in. -/
structure Stp where
  kd : Int
  on : Int
  a : Int
  n : Int
  t : ByteArray
  kv : Value
def Stp.row (s : Stp) : List Value := [.int .i64 s.kd, .int .i64 s.on, .int .i64 s.a, .int .i64 s.n, .string s.t, s.kv]
structure Stp.Ok (s : Stp) (w : World) : Prop where
  on1 : -9223372036854775808 ≤ s.on
  on2 : s.on ≤ 9223372036854775807
  n2 : s.n ≤ 9223372036854775807
  t2 : s.t.size ≤ 9223372036854775807
  yes : ∃ kb ko ks keep, Yes s.kv kb ko ks keep w ∧ ∀ k ∈ ks, k < w.heap.size
/-! A row that is loaded, by its cells. -/
def rowOf (P : Program) (T : TypeId) (w : World) (v : Value) : List Value :=
  match v with
  | .pointer (some a) => (List.range (((P.info? T).map (·.size)).getD 0)).map fun j => (w.cell? ⟨a.block, a.off + j, none⟩).getD undef
  | _ => []
def RowC (P : Program) (T : TypeId) (w : World) (v : Value) : Prop :=
  ∃ b o cs d, v = .pointer (some ⟨b, o, none⟩) ∧ w.rangeAt b o cs ∧ P.underlying T = some d ∧ d.isRow = true ∧ (P.info? T).map (·.size) = some cs.length
theorem RowC.of {P : Program} {T : TypeId} {w : World} {b o : Nat} {cs : List Value} {d : TypeDesc} (h : w.rangeAt b o cs) (hu : P.underlying T = some d) (hd : d.isRow = true) (hi : (P.info? T).map (·.size) = some cs.length) :
    RowC P T w (.pointer (some ⟨b, o, none⟩)) ∧ rowOf P T w (.pointer (some ⟨b, o, none⟩)) = cs := by
  refine ⟨⟨b, o, cs, d, rfl, h, hu, hd, hi⟩, ?_⟩
  simp only [rowOf, hi, Option.getD_some]
  apply List.ext_getElem
  · simp
  · intro i h1 h2
    simp only [List.getElem_map, List.getElem_range]
    rw [h i cs[i] (List.getElem?_eq_getElem h2)]
    rfl
theorem run_load_row {P : Program} {T : TypeId} {w : World} {ρ : Operand → Value} {dst : Option Tmp} {x : Operand} {ty : TypeId} {pos : String} {after : Array Edge} {guard : Option (Nat × Bool)} (h : RowC P T w (ρ x)) :
    Sem.run P (execOp ρ { dst := dst, op := .load T x, type := ty, pos := pos, after := after, guard := guard }) w = .ok (.value (.agg (rowOf P T w (ρ x)).toArray)) w := by
  obtain ⟨b, o, cs, d, hv, hb, hu, hd, hi⟩ := h
  have := (RowC.of hb hu hd hi).2
  unfold execOp
  rw [hv, this]
  simp only [hv, Sem.run_bind, run_loadAt_mid w b o T cs d hb hu hd hi, Result.andThen_ok]
  rfl
/-- A disk that is new. -/
def newX (n : Nat) : Ds := ⟨n, blankS n, [], false, 0⟩
def newG : Pw := ⟨false, -1, 0⟩
/-- The disks' places while they are made. -/
structure Setup (w0 : World) (Q : List Nat) (L : Nat → List Nat) (p q : Nat) (w : World) : Prop where
  pp : PP p newG w
  rp : RP q newG w
  l0 : L 0 = [p]
  l1 : L 1 = [q]
  ap : Apart L
  low : ∀ i, i < 6 → ∀ y ∈ L i, w0.heap.size ≤ y
  lt : ∀ i, i < 6 → ∀ y ∈ L i, y < w.heap.size
  old : Below w0.heap.size w0 w
  ql : ∀ y ∈ Q, w0.heap.size ≤ y ∧ y < w.heap.size
  qo : ∀ y ∈ Q, ∀ i, i < 6 → y ∉ L i
section
variable {w0 : World} {Q : List Nat} {L : Nat → List Nat} {p q : Nat} {w w' : World}
theorem Setup.kept (h : Setup w0 Q L p q w) {ws : List Nat} (hk : Kept w.heap.size ws w w') (hws : ∀ y ∈ ws, y ∈ Q) : Setup w0 Q L p q w' := by
  have hkp : ∀ i, i < 6 → ∀ y ∈ L i, w'.heap[y]? = w.heap[y]? := fun i hi y hy => hk.block y (h.lt i hi y hy) (fun hm => h.qo y (hws y hm) i hi hy)
  exact { h with
    pp := (hkp 0 (by omega) p (by rw [h.l0]; simp)).trans h.pp
    rp := (hkp 1 (by omega) q (by rw [h.l1]; simp)).trans h.rp
    lt := fun i hi y hy => Nat.lt_of_lt_of_le (h.lt i hi y hy) hk.size
    old := h.old.trans ((hk.mono h.old.size (fun _ _ hm => hm)).below (fun y hy => (h.ql y (hws y hy)).1))
    ql := fun y hy => ⟨(h.ql y hy).1, Nat.lt_of_lt_of_le (h.ql y hy).2 hk.size⟩ }
theorem Setup.below (h : Setup w0 Q L p q w) (hb : Below w.heap.size w w') : Setup w0 Q L p q w' := h.kept (ws := []) (Kept.of_below hb) (by simp)
/-- One disk more. -/
theorem Setup.add (h : Setup w0 Q L p q w) (hb : Below w.heap.size w w') {k : Nat} (hk : 2 ≤ k ∧ k < 6) {F : List Nat} (hF : ∀ y ∈ F, w.heap.size ≤ y) (hlt : ∀ y ∈ F, y < w'.heap.size) : Setup w0 Q (upd L k F) p q w' := by
  have h' := h.below hb
  exact { h' with
    l0 := by rw [upd_other L F (by omega)]; exact h.l0
    l1 := by rw [upd_other L F (by omega)]; exact h.l1
    ap := h.ap.grow h.lt hk.2 (fun y hy => Or.inr (hF y hy))
    low := fun i hi y hy => by
      by_cases e : i = k
      · subst e; rw [upd_same] at hy; have := hF y hy; have := h.old.size; omega
      · rw [upd_other L F e] at hy; exact h.low i hi y hy
    lt := fun i hi y hy => by
      by_cases e : i = k
      · subst e; rw [upd_same] at hy; exact hlt y hy
      · rw [upd_other L F e] at hy; exact h'.lt i hi y hy
    qo := fun y hy i hi hm => by
      by_cases e : i = k
      · subst e; rw [upd_same] at hm; have := hF y hm; have := (h.ql y hy).2; omega
      · rw [upd_other L F e] at hm; exact h.qo y hy i hi hm }
/-- All is made: two disks side by side. -/
theorem Setup.play (h : Setup w0 Q L p q w) {d e r s : Nat} {x y : Ds} (h2 : PD d p (L 2) x w) (h3 : PD e p (L 3) y w) (h4 : RD r q (L 4) x w) (h5 : RD s q (L 5) y w) : Play w0 w (Q ++ List.range w0.heap.size) L p q d e r s newG newG x y x y w where
  pp := h.pp
  rp := h.rp
  da := h2
  db := h3
  ra := h4
  rb := h5
  l0 := h.l0
  l1 := h.l1
  ap := h.ap
  low := h.low
  old := h.old
  ql := fun y hy => by
    rcases List.mem_append.1 hy with hy | hy
    · exact (h.ql y hy).2
    · have := List.mem_range.1 hy; have := h.old.size; omega
  qo := fun y hy i hi hm => by
    rcases List.mem_append.1 hy with hy | hy
    · exact h.qo y hy i hi hm
    · have := List.mem_range.1 hy; have := h.low i hi y hm; omega
  qs := fun _ _ => rfl
end
/-- The world's own block. -/
def wcells (p q : Nat) (d e r s : Option Addr) : List Value := [.pointer (some ⟨p, 0, none⟩), .pointer d, .pointer e, .pointer (some ⟨q, 0, none⟩), .pointer r, .pointer s]
/-- What is made so far. -/
def Making (w0 : World) (p q b g n0 n1 : Nat) (k : Nat) (w : World) : Prop :=
  b ≠ g ∧ ∃ L, Setup w0 [b, g] L p q w ∧ w.heap[g]? = some (.cells [Value.int .i64 n0, .int .i64 n1].toArray 3 (0, 0)) ∧
  (match k with
  | 0 => w.heap[b]? = some (.cells (wcells p q none none none none).toArray 35 (0, 0))
  | 1 => ∃ d r, w.heap[b]? = some (.cells (wcells p q (some ⟨d, 0, none⟩) none (some ⟨r, 0, none⟩) none).toArray 35 (0, 0)) ∧ PD d p (L 2) (newX n0) w ∧ RD r q (L 4) (newX n0) w
  | _ => ∃ d r e s, w.heap[b]? = some (.cells (wcells p q (some ⟨d, 0, none⟩) (some ⟨e, 0, none⟩) (some ⟨r, 0, none⟩) (some ⟨s, 0, none⟩)).toArray 35 (0, 0)) ∧ PD d p (L 2) (newX n0) w ∧ RD r q (L 4) (newX n0) w ∧ PD e p (L 3) (newX n1) w ∧ RD s q (L 5) (newX n1) w)
theorem Making.start {w0 w1 w2 : World} {p n0 n1 : Nat} (hb1 : Below w0.heap.size w0 w1) (hb2 : Below w1.heap.size w1 w2) (hp : w1.heap.size ≤ p) (hP : PowerAt p false (-1) 0 w2) :
    ∃ w5 q b g, w5 = ((w2.alloc (.cells #[.bool false, .int .i64 (-1), .int .i64 0] 29)).alloc (.cells #[.pointer (some ⟨p, 0, none⟩), .pointer none, .pointer none, .pointer (some ⟨w2.heap.size, 0, none⟩), .pointer none, .pointer none] 35)).alloc (.cells #[.int .i64 n0, .int .i64 n1] 3) ∧
      q = w2.heap.size ∧ b = w2.heap.size + 1 ∧ g = w2.heap.size + 1 + 1 ∧ Making w0 p q b g n0 n1 0 w5 := by
  have a1 : Below w2.heap.size w2 (w2.alloc (.cells #[.bool false, .int .i64 (-1), .int .i64 0] 29)) := (Below.refl _ _).alloc (Nat.le_refl _) _
  obtain ⟨w3, hw3⟩ : ∃ w3, w3 = w2.alloc (.cells #[.bool false, .int .i64 (-1), .int .i64 0] 29) := ⟨_, rfl⟩
  have g3 : w3.heap[w2.heap.size]? = some (.cells [Value.bool false, .int .i64 (-1), .int .i64 0].toArray 29 (0, 0)) := by rw [hw3]; exact heap_alloc_new _ _
  have z3 : w3.heap.size = w2.heap.size + 1 := by rw [hw3]; simp
  rw [← hw3] at a1 ⊢
  obtain ⟨w4, hw4⟩ : ∃ w4, w4 = w3.alloc (.cells #[.pointer (some ⟨p, 0, none⟩), .pointer none, .pointer none, .pointer (some ⟨w2.heap.size, 0, none⟩), .pointer none, .pointer none] 35) := ⟨_, rfl⟩
  have a2 : Below w3.heap.size w3 w4 := by rw [hw4]; exact (Below.refl _ _).alloc (Nat.le_refl _) _
  have g4 : w4.heap[w3.heap.size]? = some (.cells (wcells p w2.heap.size none none none none).toArray 35 (0, 0)) := by rw [hw4]; exact heap_alloc_new _ _
  have z4 : w4.heap.size = w3.heap.size + 1 := by rw [hw4]; simp
  rw [← hw4]
  obtain ⟨w5, hw5⟩ : ∃ w5, w5 = w4.alloc (.cells #[.int .i64 n0, .int .i64 n1] 3) := ⟨_, rfl⟩
  have a3 : Below w4.heap.size w4 w5 := by rw [hw5]; exact (Below.refl _ _).alloc (Nat.le_refl _) _
  have g5 : w5.heap[w4.heap.size]? = some (.cells [Value.int .i64 n0, .int .i64 n1].toArray 3 (0, 0)) := by rw [hw5]; exact heap_alloc_new _ _
  have z5 : w5.heap.size = w4.heap.size + 1 := by rw [hw5]; simp
  rw [← hw5]
  have hp2 := hP.lt
  have s1 := hb1.size
  have s2 := hb2.size
  have b25 : Below w2.heap.size w2 w5 := (a1.trans (a2.mono (by omega))).trans (a3.mono (by omega))
  refine ⟨w5, _, _, _, rfl, rfl, rfl, rfl, by omega, fun i => if i = 0 then [p] else if i = 1 then [w2.heap.size] else [], ?_, ?_, ?_⟩
  · exact {
      pp := (b25.block p hp2).trans hP
      rp := ((a2.trans (a3.mono (by omega))).block _ (by omega)).trans g3
      l0 := rfl
      l1 := rfl
      ap := by
        intro i j hi hj hij y hy hm
        by_cases i0 : i = 0
        · subst i0
          simp at hy
          by_cases j1 : j = 1
          · subst j1; simp at hm; omega
          · have : j ≠ 0 := fun e => hij e.symm
            simp [this, j1] at hm
        · by_cases i1 : i = 1
          · subst i1
            simp at hy
            by_cases j0 : j = 0
            · subst j0; simp at hm; omega
            · have : j ≠ 1 := fun e => hij e.symm
              simp [this, j0] at hm
          · simp [i0, i1] at hy
      low := by
        intro i hi y hy
        by_cases i0 : i = 0
        · subst i0; simp at hy; omega
        · by_cases i1 : i = 1
          · subst i1; simp at hy; omega
          · simp [i0, i1] at hy
      lt := by
        intro i hi y hy
        by_cases i0 : i = 0
        · subst i0; simp at hy; omega
        · by_cases i1 : i = 1
          · subst i1; simp at hy; omega
          · simp [i0, i1] at hy
      old := (hb1.trans (hb2.mono s1)).trans (b25.mono (by omega))
      ql := by
        intro y hy
        simp at hy
        omega
      qo := by
        intro y hy i hi hm
        simp at hy
        by_cases i0 : i = 0
        · subst i0; simp at hm; omega
        · by_cases i1 : i = 1
          · subst i1; simp at hm; omega
          · simp [i0, i1] at hm }
  · rw [show w2.heap.size + 1 + 1 = w4.heap.size by omega]; exact g5
  · show w5.heap[w2.heap.size + 1]? = _
    rw [show w2.heap.size + 1 = w3.heap.size by omega, a3.block _ (by omega)]
    exact g4
theorem at_list {w : World} {b : Nat} {cs : List Value} {T : TypeId} (h : w.heap[b]? = some (.cells cs.toArray T (0, 0))) (j : Nat) : w.cell? ⟨b, j, none⟩ = cs[j]? ∧ w.frozen? ⟨b, j, none⟩ = false := ⟨cell_of_list h j, free_of_list h j⟩
theorem PD.below {d p : Nat} {F : List Nat} {x : Ds} {w w' : World} (h : PD d p F x w) (hb : Below w.heap.size w w') : PD d p F x w' := h.kept (ws := []) (Kept.of_below hb) (by simp)
theorem RD.below {r q : Nat} {G : List Nat} {x : Ds} {w w' : World} (h : RD r q G x w) (hb : Below w.heap.size w w') : RD r q G x w' := RDisk.kept (ws := []) h (Kept.of_below hb) (by simp)
section
variable {w0 w w' : World} {L : Nat → List Nat} {p q b g n0 n1 : Nat} {cs : List Value}
/-- The two blocks and what is made, while nothing but the world's own block is written to. -/
structure SMid (w0 : World) (L : Nat → List Nat) (p q b g n0 n1 : Nat) (cs : List Value) (w : World) : Prop where
  ne : b ≠ g
  s : Setup w0 [b, g] L p q w
  gg : w.heap[g]? = some (.cells [Value.int .i64 n0, .int .i64 n1].toArray 3 (0, 0))
  bb : w.heap[b]? = some (.cells cs.toArray 35 (0, 0))
theorem SMid.below (h : SMid w0 L p q b g n0 n1 cs w) (hb : Below w.heap.size w w') : SMid w0 L p q b g n0 n1 cs w' :=
  ⟨h.ne, h.s.below hb, (hb.block g (h.s.ql g (by simp)).2).trans h.gg, (hb.block b (h.s.ql b (by simp)).2).trans h.bb⟩
theorem SMid.drew (h : SMid w0 L p q b g n0 n1 cs w) : SMid w0 L p q b g n0 n1 cs w.drew := h.below (Below.refl _ _).drew
theorem SMid.add (h : SMid w0 L p q b g n0 n1 cs w) (hb : Below w.heap.size w w') {k : Nat} (hk : 2 ≤ k ∧ k < 6) {F : List Nat} (hF : ∀ y ∈ F, w.heap.size ≤ y) (hlt : ∀ y ∈ F, y < w'.heap.size) : SMid w0 (upd L k F) p q b g n0 n1 cs w' :=
  { h.below hb with s := h.s.add hb hk hF hlt }
theorem SMid.set (h : SMid w0 L p q b g n0 n1 cs w) (j : Nat) (v : Value) : SMid w0 L p q b g n0 n1 (cs.set j v) (w.setCell ⟨b, j, none⟩ v) ∧ Kept w.heap.size [b] w (w.setCell ⟨b, j, none⟩ v) := by
  have hk : Kept w.heap.size [b] w (w.setCell ⟨b, j, none⟩ v) := (Kept.refl _ _ _).setCell (p := ⟨b, j, none⟩) (by simp) _
  exact ⟨⟨h.ne, h.s.kept hk (by simp), (hk.block g (h.s.ql g (by simp)).2 (by simp; exact fun e => h.ne e.symm)).trans h.gg, set_list h.bb j v⟩, hk⟩
theorem SMid.pd (h : SMid w0 L p q b g n0 n1 cs w) {k d : Nat} {x : Ds} (hk : k < 6) (hd : PD d p (L k) x w) (j : Nat) (v : Value) : PD d p (L k) x (w.setCell ⟨b, j, none⟩ v) :=
  hd.kept (h.set j v).2 (fun y hy hm => h.s.qo b (by simp) k hk (by simp at hm; exact hm ▸ hy))
theorem SMid.rd (h : SMid w0 L p q b g n0 n1 cs w) {k d : Nat} {x : Ds} (hk : k < 6) (hd : RD d q (L k) x w) (j : Nat) (v : Value) : RD d q (L k) x (w.setCell ⟨b, j, none⟩ v) :=
  RDisk.kept hd (h.set j v).2 (fun y hy hm => h.s.qo b (by simp) k hk (by simp at hm; exact hm ▸ hy))
theorem SMid.cells (h : SMid w0 L p q b g n0 n1 cs w) : (∀ j, w.cell? ⟨b, j, none⟩ = cs[j]? ∧ w.frozen? ⟨b, j, none⟩ = false) ∧ w.cell? ⟨g, 0, none⟩ = some (.int .i64 n0) ∧ w.cell? ⟨g, 1, none⟩ = some (.int .i64 n1) :=
  ⟨at_list h.bb, cell_of_list h.gg 0, cell_of_list h.gg 1⟩
end
/-- A step on whichever disk. -/
theorem step_both {w0 w1 : World} {Q : List Nat} {L : Nat → List Nat} {p q d e r s b N : Nat} {g : Pw} {x y : Ds} {w : World} (st : Stp) (ok : st.Ok w0) (h : Play w0 w1 Q L p q d e r s g g x y x y w) (hb : b ∈ Q) (hQ : ∀ k, k < w0.heap.size → k ∈ Q) (h01 : ∀ k, k < w0.heap.size → w1.heap[k]? = w0.heap[k]?)
    (hw : w1.heap[b]? = some (.cells (wcells p q (some ⟨d, 0, none⟩) (some ⟨e, 0, none⟩) (some ⟨r, 0, none⟩) (some ⟨s, 0, none⟩)).toArray 35 (0, 0))) (hg : g.okN N) (hx : x.okN N) (hy : y.okN N) (hN : N ≤ 200) :
    Calls Try.prog 9 #[.pointer (some ⟨b, 0, none⟩), .agg st.row.toArray] w fun o w' => o = .returned (.bool true) ∧ ∃ L' g' x' y', g'.okN (N + 1) ∧ x'.okN (N + 1) ∧ y'.okN (N + 1) ∧ Play w0 w1 Q L' p q d e r s g' g' x' y' x' y' w' := by
  obtain ⟨kb, ko, ks, keep, hyes, hks⟩ := ok.yes
  have hyes1 : Yes st.kv kb ko ks keep w1 := hyes.keep (fun k hk => h01 k (hks k hk))
  have hksQ : ∀ k ∈ ks, k ∈ Q := fun k hk => hQ k (hks k hk)
  have c := fun j => cell_of_list hw j
  rcases (show pickN st.on 2 = 0 ∨ pickN st.on 2 = 1 by have := pickN_lt st.on 2 (by omega); omega) with hk | hk
  · refine (step_any (k := 0) st.kd st.on st.a st.n st.t st.kv h hb hk.symm ⟨c 0, c 1, c 3, c 4⟩ hg hx hN ok.on1 ok.on2 ok.n2 ok.t2 kb ko ks keep hyes1 hksQ).mono ?_
    rintro o w' ⟨rfl, L', g', x', hg', hx', hp⟩
    exact ⟨rfl, L', g', x', y, hg', hx', hy.more, hp⟩
  · refine (step_any (k := 1) st.kd st.on st.a st.n st.t st.kv h.swap hb hk.symm ⟨c 0, c 2, c 3, c 5⟩ hg hy hN ok.on1 ok.on2 ok.n2 ok.t2 kb ko ks keep hyes1 hksQ).mono ?_
    rintro o w' ⟨rfl, L', g', x', hg', hx', hp⟩
    exact ⟨rfl, swp L', g', x, x', hg', hx.more, hx', hp.swap⟩
attribute [local go_sem ↓] run_load_row

set_option maxRecDepth 100000 in
set_option maxHeartbeats 4000000 in
theorem plays_walk (one two : Int) (ho1 : -9223372036854775808 ≤ one) (ho2 : one ≤ 9223372036854775807) (ht1 : -9223372036854775808 ≤ two) (ht2 : two ≤ 9223372036854775807)
    (a0 : Option Addr) (bs off len cap : Nat) (St : Nat → Stp) (w : World) (ha : len = 0 ∨ a0 = some ⟨bs, off, none⟩) (hl : len ≤ cap) (hb : len = 0 ∨ bs < w.heap.size)
    (hc : ∀ i, i < len → w.rangeAt bs (off + i * 6) (St i).row) (hok : ∀ i, i < len → (St i).Ok w) :
    Calls Try.prog 3 #[.int .i64 one, .int .i64 two, .slice a0 len cap] w fun e w' => e = .returned (.bool true) ∧ Below w.heap.size w w' := by
  obtain ⟨k1, hk1, hP1⟩ : ∃ k1 : Nat, k1 < 40 ∧ ∀ W, Calls Try.prog 6 #[.int .i64 one, .int .i64 40] W fun e w' => e = .returned (.int .i64 k1) ∧ W = w' := ⟨_, pickN_lt one 40 (by omega), fun W => pick_any one 40 (by omega) (by omega) ho1 ho2 W⟩
  obtain ⟨k2, hk2, hP2⟩ : ∃ k1 : Nat, k1 < 40 ∧ ∀ W, Calls Try.prog 6 #[.int .i64 two, .int .i64 40] W fun e w' => e = .returned (.int .i64 k1) ∧ W = w' := ⟨_, pickN_lt two 40 (by omega), fun W => pick_any two 40 (by omega) (by omega) ht1 ht2 W⟩
  have P1 := Lib.hid hP1
  have P2 := Lib.hid hP2
  have HA := Lib.hid ha
  have HL := Lib.hid hl
  have HB := Lib.hid hb
  have HC := Lib.hid hc
  have HO := Lib.hid hok
  clear hP1 hP2 ha hl hb hc hok ho1 ho2 ht1 ht2
  go_enter Try.func3, Try.ntmps3
  go_wp2_with fail
  refine (known_true _).mono ?_
  rintro e w1 ⟨rfl, hb1⟩
  have B1 := Lib.hid hb1
  clear hb1
  go_wp2_with fail
  refine (NewPower_any _).mono ?_
  rintro e w2 ⟨p, hp, rfl, hPw, hb2⟩
  have PW := Lib.hid hPw
  have B2 := Lib.hid hb2
  have G2 := Lib.hid hp
  clear hPw hb2 hp
  go_wp2_with fail
  refine (P1.out _).mono ?_
  rintro e wz ⟨rfl, rfl⟩
  go_wp2_with fail
  refine (P2.out _).mono ?_
  rintro e wz ⟨rfl, rfl⟩
  go_wp2_with fail
  obtain ⟨n0, hn0, hn0a, hn0b⟩ : ∃ n0 : Nat, (1 : Int) + k1 = n0 ∧ 1 ≤ n0 ∧ n0 ≤ 40 := ⟨1 + k1, by omega, by omega, by omega⟩
  obtain ⟨n1, hn1, hn1a, hn1b⟩ : ∃ n1 : Nat, (1 : Int) + k2 = n1 ∧ 1 ≤ n1 ∧ n1 ≤ 40 := ⟨1 + k2, by omega, by omega, by omega⟩
  rw [hn0, hn1]
  obtain ⟨w5, q, b, g, hw5, hq, hbb, hgg, hM⟩ := Making.start (n0 := n0) (n1 := n1) B1.out B2.out G2.out PW.out
  rw [← hw5, ← hgg, ← hbb, ← hq]
  have M5 := Lib.hid hM
  clear hw5 hgg hbb hq hM PW B1 B2 G2 hn0 hn1 P1 P2 hk1 hk2
  go_loopw [11] (fun i wr => ∃ k : Nat, k ≤ 2 ∧ i = .int .i64 k ∧ Making w p q b g n0 n1 k wr) (fun i _ => 2 - (intOf i).toNat)
  case atStart => exact ⟨0, by omega, rfl, M5.out⟩
  case round =>
    clear M5
    obtain ⟨k, hk, rfl, hM⟩ := hrel
    rcases (show k = 0 ∨ k = 1 ∨ k = 2 by omega) with h0 | h0 | h0
    · have ek : (k : Int) = 0 := by omega
      rw [h0] at hM
      obtain ⟨hne, L, hS, hg, hbk⟩ := hM
      have MA : Hid (SMid w L p q b g n0 n1 (wcells p q none none none none) wr) := Lib.hid ⟨hne, hS, hg, hbk⟩
      obtain ⟨_, cg0, cg1⟩ := MA.out.cells
      have PPr := Lib.hid hS.pp
      clear hne hS hg hbk
      rw [ek]
      go_wp2_with fail
      refine (New_ok p false (-1) 0 n0 (by omega) (by omega) _ PPr.out).mono ?_
      rintro e w6 ⟨d, F, rfl, hL, hF, hb6⟩
      have hd6 : PD d p F (newX n0) w6 := Or.inr ⟨rfl, hL⟩
      have M6 := Lib.hid (MA.out.add hb6 (k := 2) (by omega) hF hd6.in_F.2.2)
      have D6 : Hid (PD d p (upd L 2 F 2) (newX n0) w6) := Lib.hid (by rw [upd_same]; exact hd6)
      obtain ⟨c6, cg0', cg1'⟩ := M6.out.cells
      obtain ⟨cb, fb⟩ := c6 1
      have cb' : w6.cell? ⟨b, 1, none⟩ = some (.pointer none) := cb
      clear cb c6 hL hF hb6 hd6 cg0 cg1 MA PPr
      go_wp2_with fail
      have hm := M6.out.set 1 (.pointer (some ⟨d, 0, none⟩))
      have hD := M6.out.pd (k := 2) (by omega) D6.out 1 (.pointer (some ⟨d, 0, none⟩))
      obtain ⟨w7, hw7⟩ : ∃ w7, w7 = w6.setCell ⟨b, 1, none⟩ (.pointer (some ⟨d, 0, none⟩)) := ⟨_, rfl⟩
      rw [← hw7] at hm hD ⊢
      have M7 := Lib.hid hm.1.drew
      have D7 := Lib.hid (hD.below (Below.refl _ _).drew)
      have C7 : w7.cell? ⟨b, 3, none⟩ = some (.pointer (some ⟨q, 0, none⟩)) ∧ w7.cell? ⟨g, 0, none⟩ = some (.int .i64 n0) := ⟨(hm.1.cells.1 3).1, hm.1.cells.2.1⟩
      clear hm hD hw7 cb' fb M6 D6 cg0' cg1'
      go_region_held3 (fun v => v.cell? ⟨b, 3, none⟩ = some (.pointer (some ⟨q, 0, none⟩)) ∧ v.cell? ⟨g, 0, none⟩ = some (.int .i64 n0)) (first | exact C7 | exact C8 | exact C9 | exact C9') (first | (go_at_call 8; refine (rnew_ok q n0 (by omega) (by omega) _ (RPow.lt M7.out.s.rp)).mono ?_; rintro e w8 ⟨r, G, rfl, hR, hG, hb8⟩; have hR' : RD r q G (newX n0) w8 := hR; have hm8 := M7.out.add hb8 (k := 4) (by omega) hG (RD.in_G hR').2.2; have M8 := Lib.hid hm8; have R8 := Lib.hid hR'; have D8 := Lib.hid (D7.out.below hb8); have C8 : w8.cell? ⟨b, 3, none⟩ = some (.pointer (some ⟨q, 0, none⟩)) ∧ w8.cell? ⟨g, 0, none⟩ = some (.int .i64 n0) := ⟨(hm8.cells.1 3).1, hm8.cells.2.1⟩; have hset := (hm8.set 4 (.pointer (some ⟨r, 0, none⟩))).1; have C9 : (w8.setCell ⟨b, 4, none⟩ (.pointer (some ⟨r, 0, none⟩))).cell? ⟨b, 3, none⟩ = some (.pointer (some ⟨q, 0, none⟩)) ∧ (w8.setCell ⟨b, 4, none⟩ (.pointer (some ⟨r, 0, none⟩))).cell? ⟨g, 0, none⟩ = some (.int .i64 n0) := ⟨(hset.cells.1 3).1, hset.cells.2.1⟩; have C9' : (w8.setCell ⟨b, 4, none⟩ (.pointer (some ⟨r, 0, none⟩))).drew.cell? ⟨b, 3, none⟩ = some (.pointer (some ⟨q, 0, none⟩)) ∧ (w8.setCell ⟨b, 4, none⟩ (.pointer (some ⟨r, 0, none⟩))).drew.cell? ⟨g, 0, none⟩ = some (.int .i64 n0) := C9; have cb8 : w8.cell? ⟨b, 4, none⟩ = some (.pointer none) := (hm8.cells.1 4).1; have fb8 := (hm8.cells.1 4).2; clear hR hR' hG hb8 hm8 hset) | fail)
      have hD' : PD d p (upd (upd L 2 F) 4 G 2) (newX n0) w8 := by rw [upd_other (upd L 2 F) G (by omega)]; exact D8.out
      have hR' : RD r q (upd (upd L 2 F) 4 G 4) (newX n0) w8 := by rw [upd_same]; exact R8.out
      have f1 := Lib.hid (M8.out.set 4 (.pointer (some ⟨r, 0, none⟩))).1
      have f2 := Lib.hid (M8.out.pd (k := 2) (by omega) hD' 4 (.pointer (some ⟨r, 0, none⟩)))
      have f3 := Lib.hid (M8.out.rd (k := 4) (by omega) hR' 4 (.pointer (some ⟨r, 0, none⟩)))
      clear hD' hR' cb8 fb8 M8 D8 R8 D7
      go_wp2_with fail
      go_roundw
      case rel => exact ⟨1, by omega, by go_num, f1.out.ne, _, f1.out.s, f1.out.gg, d, r, f1.out.bb, f2.out, f3.out⟩
      case measure => simp [intOf]
    · have ek : (k : Int) = 1 := by omega
      rw [h0] at hM
      obtain ⟨hne, L, hS, hg, d0, r0, hbk, hd0, hr0⟩ := hM
      have MA : Hid (SMid w L p q b g n0 n1 (wcells p q (some ⟨d0, 0, none⟩) none (some ⟨r0, 0, none⟩) none) wr) := Lib.hid ⟨hne, hS, hg, hbk⟩
      obtain ⟨_, cg0, cg1⟩ := MA.out.cells
      have PPr := Lib.hid hS.pp
      clear hne hS hg hbk
      rw [ek]
      have DA := Lib.hid hd0
      have RA := Lib.hid hr0
      clear hd0 hr0
      go_wp2_with fail
      refine (New_ok p false (-1) 0 n1 (by omega) (by omega) _ PPr.out).mono ?_
      rintro e w6 ⟨d, F, rfl, hL, hF, hb6⟩
      have hd6 : PD d p F (newX n1) w6 := Or.inr ⟨rfl, hL⟩
      have M6 := Lib.hid (MA.out.add hb6 (k := 3) (by omega) hF hd6.in_F.2.2)
      have D6 : Hid (PD d p (upd L 3 F 3) (newX n1) w6) := Lib.hid (by rw [upd_same]; exact hd6)
      have DB : Hid (PD d0 p (upd L 3 F 2) (newX n0) w6) := Lib.hid (by rw [upd_other L F (by omega)]; exact DA.out.below hb6)
      have RB : Hid (RD r0 q (upd L 3 F 4) (newX n0) w6) := Lib.hid (by rw [upd_other L F (by omega)]; exact RA.out.below hb6)
      clear DA RA
      obtain ⟨c6, cg0', cg1'⟩ := M6.out.cells
      obtain ⟨cb, fb⟩ := c6 2
      have cb' : w6.cell? ⟨b, 2, none⟩ = some (.pointer none) := cb
      clear cb c6 hL hF hb6 hd6 cg0 cg1 MA PPr
      go_wp2_with fail
      have hm := M6.out.set 2 (.pointer (some ⟨d, 0, none⟩))
      have hD := M6.out.pd (k := 3) (by omega) D6.out 2 (.pointer (some ⟨d, 0, none⟩))
      have hDB := M6.out.pd (k := 2) (by omega) DB.out 2 (.pointer (some ⟨d, 0, none⟩))
      have hRB := M6.out.rd (k := 4) (by omega) RB.out 2 (.pointer (some ⟨d, 0, none⟩))
      obtain ⟨w7, hw7⟩ : ∃ w7, w7 = w6.setCell ⟨b, 2, none⟩ (.pointer (some ⟨d, 0, none⟩)) := ⟨_, rfl⟩
      rw [← hw7] at hm hD hDB hRB ⊢
      have M7 := Lib.hid hm.1.drew
      have D7 := Lib.hid (hD.below (Below.refl _ _).drew)
      have DB7 := Lib.hid (hDB.below (Below.refl _ _).drew)
      have RB7 := Lib.hid (hRB.below (Below.refl _ _).drew)
      have C7 : w7.cell? ⟨b, 3, none⟩ = some (.pointer (some ⟨q, 0, none⟩)) ∧ w7.cell? ⟨g, 1, none⟩ = some (.int .i64 n1) := ⟨(hm.1.cells.1 3).1, hm.1.cells.2.2⟩
      clear hm hD hDB hRB DB RB hw7 cb' fb M6 D6 cg0' cg1'
      go_region_held3 (fun v => v.cell? ⟨b, 3, none⟩ = some (.pointer (some ⟨q, 0, none⟩)) ∧ v.cell? ⟨g, 1, none⟩ = some (.int .i64 n1)) (first | exact C7 | exact C8 | exact C9 | exact C9') (first | (go_at_call 8; refine (rnew_ok q n1 (by omega) (by omega) _ (RPow.lt M7.out.s.rp)).mono ?_; rintro e w8 ⟨r, G, rfl, hR, hG, hb8⟩; have hR' : RD r q G (newX n1) w8 := hR; have hm8 := M7.out.add hb8 (k := 5) (by omega) hG (RD.in_G hR').2.2; have M8 := Lib.hid hm8; have R8 := Lib.hid hR'; have D8 := Lib.hid (D7.out.below hb8); have DB8 := Lib.hid (DB7.out.below hb8); have RB8 := Lib.hid (RB7.out.below hb8); have C8 : w8.cell? ⟨b, 3, none⟩ = some (.pointer (some ⟨q, 0, none⟩)) ∧ w8.cell? ⟨g, 1, none⟩ = some (.int .i64 n1) := ⟨(hm8.cells.1 3).1, hm8.cells.2.2⟩; have hset := (hm8.set 5 (.pointer (some ⟨r, 0, none⟩))).1; have C9 : (w8.setCell ⟨b, 5, none⟩ (.pointer (some ⟨r, 0, none⟩))).cell? ⟨b, 3, none⟩ = some (.pointer (some ⟨q, 0, none⟩)) ∧ (w8.setCell ⟨b, 5, none⟩ (.pointer (some ⟨r, 0, none⟩))).cell? ⟨g, 1, none⟩ = some (.int .i64 n1) := ⟨(hset.cells.1 3).1, hset.cells.2.2⟩; have C9' : (w8.setCell ⟨b, 5, none⟩ (.pointer (some ⟨r, 0, none⟩))).drew.cell? ⟨b, 3, none⟩ = some (.pointer (some ⟨q, 0, none⟩)) ∧ (w8.setCell ⟨b, 5, none⟩ (.pointer (some ⟨r, 0, none⟩))).drew.cell? ⟨g, 1, none⟩ = some (.int .i64 n1) := C9; have cb8 : w8.cell? ⟨b, 5, none⟩ = some (.pointer none) := (hm8.cells.1 5).1; have fb8 := (hm8.cells.1 5).2; clear hR hR' hG hb8 hm8 hset) | fail)
      have hD' : PD d p (upd (upd L 3 F) 5 G 3) (newX n1) w8 := by rw [upd_other (upd L 3 F) G (by omega)]; exact D8.out
      have hR' : RD r q (upd (upd L 3 F) 5 G 5) (newX n1) w8 := by rw [upd_same]; exact R8.out
      have hDB' : PD d0 p (upd (upd L 3 F) 5 G 2) (newX n0) w8 := by rw [upd_other (upd L 3 F) G (by omega)]; exact DB8.out
      have hRB' : RD r0 q (upd (upd L 3 F) 5 G 4) (newX n0) w8 := by rw [upd_other (upd L 3 F) G (by omega)]; exact RB8.out
      have f1 := Lib.hid (M8.out.set 5 (.pointer (some ⟨r, 0, none⟩))).1
      have f2 := Lib.hid (M8.out.pd (k := 3) (by omega) hD' 5 (.pointer (some ⟨r, 0, none⟩)))
      have f3 := Lib.hid (M8.out.rd (k := 5) (by omega) hR' 5 (.pointer (some ⟨r, 0, none⟩)))
      have f4 := Lib.hid (M8.out.pd (k := 2) (by omega) hDB' 5 (.pointer (some ⟨r, 0, none⟩)))
      have f5 := Lib.hid (M8.out.rd (k := 4) (by omega) hRB' 5 (.pointer (some ⟨r, 0, none⟩)))
      clear hD' hR' hDB' hRB' cb8 fb8 M8 D8 R8 DB8 RB8 D7 DB7 RB7
      go_wp2_with fail
      go_roundw
      case rel => exact ⟨2, by omega, by go_num, f1.out.ne, _, f1.out.s, f1.out.gg, d0, r0, d, r, f1.out.bb, f4.out, f5.out, f2.out, f3.out⟩
      case measure => simp [intOf]
    · have ek : (k : Int) = 2 := by omega
      rw [h0] at hM
      obtain ⟨hne, L, hS, hg, d, r, e, s, hbk, hd, hr, he, hs⟩ := hM
      obtain ⟨w9, rfl⟩ : ∃ x, x = wr := ⟨_, rfl⟩
      have hp0 := hS.play hd he hr hs
      obtain ⟨Q, hQe⟩ : ∃ Q, Q = [b, g] ++ List.range w.heap.size := ⟨_, rfl⟩
      rw [← hQe] at hp0
      have QB : Hid (b ∈ Q) := Lib.hid (by rw [hQe]; simp)
      have QA : Hid (∀ k, k < w.heap.size → k ∈ Q) := Lib.hid (fun k hk => by rw [hQe]; exact List.mem_append_right _ (List.mem_range.2 hk))
      have P9 := Lib.hid hp0
      have W9 := Lib.hid hbk
      have WC : Hid (∀ j, w9.cell? ⟨b, j, none⟩ = (wcells p q (some ⟨d, 0, none⟩) (some ⟨e, 0, none⟩) (some ⟨r, 0, none⟩) (some ⟨s, 0, none⟩))[j]?) := Lib.hid (fun j => (at_list hbk j).1)
      have O9 : Hid (∀ k, k < w.heap.size → w9.heap[k]? = w.heap[k]?) := Lib.hid (fun k hk => hS.old.block k hk)
      clear hne hS hg hbk hd hr he hs hp0 hQe
      rw [ek]
      clear ek h0 hk
      go_wp2_with fail
      go_loopw [14] (fun i wr => ∃ j : Nat, j ≤ len ∧ j ≤ 200 ∧ i = .int .i64 j ∧ ∃ L g x y, Pw.okN j g ∧ Ds.okN j x ∧ Ds.okN j y ∧ Play w w9 Q L p q d e r s g g x y x y wr) (fun i _ => 200 - (intOf i).toNat)
      case atStart => exact ⟨0, Nat.zero_le _, by omega, rfl, L, newG, newX n0, newX n1, ⟨by decide, by decide, by decide, by decide⟩, ⟨Nat.zero_le _, Int.le_refl 0, Int.le_refl 0⟩, ⟨Nat.zero_le _, Int.le_refl 0, Int.le_refl 0⟩, P9.out⟩
      case round =>
        clear P9
        obtain ⟨j, hj1, hj2, rfl, L, g', x, y, hg', hx, hy, hp⟩ := hrel
        by_cases hlt : j < len
        · by_cases h200 : j < 200
          · obtain rfl : a0 = some ⟨bs, off, none⟩ := HA.out.resolve_left (by omega)
            have hblk : bs < w.heap.size := HB.out.resolve_left (by omega)
            have hra : wr.rangeAt bs (off + j * 6) (St j).row := fun i v hv => (World.cell?_of_block (w := w) (a := ⟨bs, off + j * 6 + i, none⟩) (hp.old.block bs hblk)).trans (HC.out j hlt i v hv)
            obtain ⟨hrc, hro⟩ := RowC.of (P := Try.prog) (T := 46) hra Try.underlying46 rfl (by rw [show (St j).row.length = 6 from rfl]; kernel_rfl)
            have HP := Lib.hid hp
            have HG := Lib.hid hg'
            have HX := Lib.hid hx
            have HY := Lib.hid hy
            clear hp hg' hx hy hra hblk
            go_wp2_with fail
            refine (step_both (St j) (HO.out j hlt) HP.out QB.out QA.out O9.out W9.out HG.out HX.out HY.out hj2).mono ?_
            rintro o w10 ⟨rfl, L', g2, x2, y2, hg2, hx2, hy2, hp2⟩
            have HP2 := Lib.hid hp2
            clear hp2 hrc hro HP
            go_wp2_with fail
            go_roundw
            case rel => exact ⟨j + 1, by omega, by omega, by go_num, L', g2, x2, y2, hg2, hx2, hy2, HP2.out⟩
            case measure => simp [intOf]; omega
          · obtain hjj : j = 200 := by omega
            have QI := Lib.hid hp
            obtain ⟨t1, ht1⟩ : ∃ t1 : ByteArray, t1.data.toList = imageC x := list_of _
            obtain ⟨t2, ht2⟩ : ∃ t2 : ByteArray, t2.data.toList = imageC y := list_of _
            have T1 := Lib.hid ht1
            have T2 := Lib.hid ht2
            have E1 : Hid (sv (imageC x) = .string t1) := Lib.hid (by rw [← ht1, sv])
            have E2 : Hid (sv (imageC y) = .string t2) := Lib.hid (by rw [← ht2, sv])
            have ca := QI.out.cellQ QB.out (WC.out 1)
            have cb := QI.out.cellQ QB.out (WC.out 2)
            have cc := QI.out.cellQ QB.out (WC.out 4)
            have cd := QI.out.cellQ QB.out (WC.out 5)
            clear hp hg' hx hy ht1 ht2
            go_wp2_with fail
            have hi := QI.out.rimage
            rw [E1.out] at hi
            have HI1 := Lib.hid hi
            clear hi
            refine HI1.out.mono ?_
            rintro o w11 ⟨rfl, hp1⟩
            have Q1 := Lib.hid hp1
            have ca1 := Q1.out.cellQ QB.out (WC.out 1)
            have cb1 := Q1.out.cellQ QB.out (WC.out 2)
            have cd1 := Q1.out.cellQ QB.out (WC.out 5)
            clear hp1 ca cb cc cd HI1 QI
            go_wp2_with fail
            have hi := Q1.out.swap.rimage
            rw [E2.out] at hi
            have HI1 := Lib.hid hi
            clear hi
            refine HI1.out.mono ?_
            rintro o w12 ⟨rfl, hp2⟩
            have Q2 := Lib.hid hp2.swap
            have ca2 := Q2.out.cellQ QB.out (WC.out 1)
            have cb2 := Q2.out.cellQ QB.out (WC.out 2)
            clear hp2 ca1 cb1 cd1 HI1 Q1
            go_wp2_with fail
            refine (Q2.out.pimage t1 T1.out).mono ?_
            rintro o w13 ⟨rfl, hp3⟩
            have Q3 := Lib.hid hp3
            have cb3 := Q3.out.cellQ QB.out (WC.out 2)
            clear hp3 ca2 cb2 Q2
            go_wp2_with fail
            refine (Q3.out.swap.pimage t2 T2.out).mono ?_
            rintro o w14 ⟨rfl, hp4⟩
            have Q4 := Lib.hid hp4
            clear hp4 cb3 Q3
            go_wp2
            go_ret
            exact ⟨rfl, Q4.out.old⟩
        · have QI := Lib.hid hp
          obtain ⟨t1, ht1⟩ : ∃ t1 : ByteArray, t1.data.toList = imageC x := list_of _
          obtain ⟨t2, ht2⟩ : ∃ t2 : ByteArray, t2.data.toList = imageC y := list_of _
          have T1 := Lib.hid ht1
          have T2 := Lib.hid ht2
          have E1 : Hid (sv (imageC x) = .string t1) := Lib.hid (by rw [← ht1, sv])
          have E2 : Hid (sv (imageC y) = .string t2) := Lib.hid (by rw [← ht2, sv])
          have ca := QI.out.cellQ QB.out (WC.out 1)
          have cb := QI.out.cellQ QB.out (WC.out 2)
          have cc := QI.out.cellQ QB.out (WC.out 4)
          have cd := QI.out.cellQ QB.out (WC.out 5)
          clear hp hg' hx hy ht1 ht2
          go_wp2_with fail
          have hi := QI.out.rimage
          rw [E1.out] at hi
          have HI1 := Lib.hid hi
          clear hi
          refine HI1.out.mono ?_
          rintro o w11 ⟨rfl, hp1⟩
          have Q1 := Lib.hid hp1
          have ca1 := Q1.out.cellQ QB.out (WC.out 1)
          have cb1 := Q1.out.cellQ QB.out (WC.out 2)
          have cd1 := Q1.out.cellQ QB.out (WC.out 5)
          clear hp1 ca cb cc cd HI1 QI
          go_wp2_with fail
          have hi := Q1.out.swap.rimage
          rw [E2.out] at hi
          have HI1 := Lib.hid hi
          clear hi
          refine HI1.out.mono ?_
          rintro o w12 ⟨rfl, hp2⟩
          have Q2 := Lib.hid hp2.swap
          have ca2 := Q2.out.cellQ QB.out (WC.out 1)
          have cb2 := Q2.out.cellQ QB.out (WC.out 2)
          clear hp2 ca1 cb1 cd1 HI1 Q1
          go_wp2_with fail
          refine (Q2.out.pimage t1 T1.out).mono ?_
          rintro o w13 ⟨rfl, hp3⟩
          have Q3 := Lib.hid hp3
          have cb3 := Q3.out.cellQ QB.out (WC.out 2)
          clear hp3 ca2 cb2 Q2
          go_wp2_with fail
          refine (Q3.out.swap.pimage t2 T2.out).mono ?_
          rintro o w14 ⟨rfl, hp4⟩
          have Q4 := Lib.hid hp4
          clear hp4 cb3 Q3
          go_wp2
          go_ret
          exact ⟨rfl, Q4.out.old⟩
end Go.Proofs.Ytkpnllaegkdkkaa
