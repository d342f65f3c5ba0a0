/- Two disks at one power, the program's and the document's, side by side. -/
import Derived.Test.YtkpnllaegkdkkaaPPSide
namespace Go.Proofs.Ytkpnllaegkdkkaa
open Go.RowKit

/-- Lists of blocks that have nothing in common. -/
def Apart (L : Nat → List Nat) : Prop := ∀ i j, i < 6 → j < 6 → i ≠ j → ∀ y ∈ L i, y ∉ L j
def upd (L : Nat → List Nat) (k : Nat) (X : List Nat) (i : Nat) : List Nat := if i = k then X else L i
theorem upd_same (L : Nat → List Nat) (k : Nat) (X : List Nat) : upd L k X k = X := if_pos rfl
theorem upd_other (L : Nat → List Nat) {k i : Nat} (X : List Nat) (h : i ≠ k) : upd L k X i = L i := if_neg h
theorem Apart.grow {L : Nat → List Nat} (h : Apart L) {z k : Nat} {X : List Nat} (hz : ∀ j, j < 6 → ∀ y ∈ L j, y < z) (hk : k < 6) (hX : ∀ y ∈ X, y ∈ L k ∨ z ≤ y) : Apart (upd L k X) := by
  intro i j hi hj hij y hy
  by_cases e : i = k
  · subst e
    rw [upd_same] at hy
    rw [upd_other L X (fun e => hij e.symm)]
    intro hm
    rcases hX y hy with h1 | h1
    · exact h i j hi hj hij y h1 hm
    · have := hz j hj y hm; omega
  · rw [upd_other L X e] at hy
    by_cases e2 : j = k
    · subst e2
      rw [upd_same]
      intro hm
      rcases hX y hm with h1 | h1
      · exact h i j hi hj hij y hy h1
      · have := hz i hi y hy; omega
    · rw [upd_other L X e2]
      exact h i j hi hj hij y hy
/-- What is played with: of the program the power p and the disks d, e; of the document q, r, s. -/
structure Play (w0 w1 : World) (Q : List Nat) (L : Nat → List Nat) (p q d e r s : Nat) (gp gr : Pw) (xp yp xr yr : Ds) (w : World) : Prop where
  pp : PP p gp w
  rp : RP q gr w
  da : PD d p (L 2) xp w
  db : PD e p (L 3) yp w
  ra : RD r q (L 4) xr w
  rb : RD s q (L 5) yr w
  l0 : L 0 = [p]
  l1 : L 1 = [q]
  ap : Apart L
  low : ∀ i, i < 6 → ∀ y ∈ L i, w0.heap.size ≤ y
  old : Below w0.heap.size w0 w
  ql : ∀ y ∈ Q, y < w.heap.size
  qo : ∀ y ∈ Q, ∀ i, i < 6 → y ∉ L i
  qs : ∀ y ∈ Q, w.heap[y]? = w1.heap[y]?
section
variable {w0 w1 : World} {Q : List Nat} {L : Nat → List Nat} {p q d e r s : Nat} {gp gr : Pw} {xp yp xr yr : Ds} {w w' : World}
theorem RD.in_G {r q : Nat} {G : List Nat} {x : Ds} {w : World} (h : RD r q G x w) : r ∈ G ∧ q ∉ G ∧ ∀ y ∈ G, y < w.heap.size := by
  obtain ⟨hv, wv, _, h1, _, _, h4, h5⟩ := h
  exact ⟨h1, h4, h5⟩
theorem Play.lt (h : Play w0 w1 Q L p q d e r s gp gr xp yp xr yr w) : ∀ i, i < 6 → ∀ y ∈ L i, y < w.heap.size := by
  intro i hi y hy
  have h0 := h.pp.lt
  have h1 := h.rp.lt
  match i, hi with
  | 0, _ => rw [h.l0] at hy; simp at hy; omega
  | 1, _ => rw [h.l1] at hy; simp at hy; omega
  | 2, _ => exact h.da.in_F.2.2 y hy
  | 3, _ => exact h.db.in_F.2.2 y hy
  | 4, _ => exact h.ra.in_G.2.2 y hy
  | 5, _ => exact h.rb.in_G.2.2 y hy
/-- Only what is not its own has changed. -/
theorem Play.below (h : Play w0 w1 Q L p q d e r s gp gr xp yp xr yr w) (hb : Below w.heap.size w w') : Play w0 w1 Q L p q d e r s gp gr xp yp xr yr w' := by
  have hk : ∀ i, i < 6 → ∀ y ∈ L i, w'.heap[y]? = w.heap[y]? := fun i hi y hy => hb.block y (h.lt i hi y hy)
  exact { h with
    pp := (hk 0 (by omega) p (by rw [h.l0]; simp)).trans h.pp
    rp := (hk 1 (by omega) q (by rw [h.l1]; simp)).trans h.rp
    da := h.da.keep hb.size (hk 2 (by omega))
    db := h.db.keep hb.size (hk 3 (by omega))
    ra := RDisk.keep h.ra hb.size (hk 4 (by omega))
    rb := RDisk.keep h.rb hb.size (hk 5 (by omega))
    old := h.old.trans (hb.mono h.old.size)
    ql := fun y hy => Nat.lt_of_lt_of_le (h.ql y hy) hb.size
    qs := fun y hy => (hb.block y (h.ql y hy)).trans (h.qs y hy) }
theorem Play.low' (h : Play w0 w1 Q L p q d e r s gp gr xp yp xr yr w) {k : Nat} (hk : k < 6) {X : List Nat} (hX : ∀ y ∈ X, y ∈ L k ∨ w.heap.size ≤ y) : ∀ i, i < 6 → ∀ y ∈ upd L k X i, w0.heap.size ≤ y := by
  intro i hi y hy
  by_cases e : i = k
  · subst e
    rw [upd_same] at hy
    rcases hX y hy with h1 | h1
    · exact h.low i hi y h1
    · have := h.old.size; omega
  · rw [upd_other L X e] at hy; exact h.low i hi y hy
theorem Play.out' (h : Play w0 w1 Q L p q d e r s gp gr xp yp xr yr w) {k : Nat} (hk : k < 6) {X : List Nat} (hX : ∀ y ∈ X, y ∈ L k ∨ w.heap.size ≤ y) : ∀ y ∈ Q, ∀ i, i < 6 → y ∉ upd L k X i := by
  intro y hy i hi hm
  by_cases e : i = k
  · subst e
    rw [upd_same] at hm
    rcases hX y hm with h1 | h1
    · exact h.qo y hy i hi h1
    · have := h.ql y hy; omega
  · rw [upd_other L X e] at hm; exact h.qo y hy i hi hm
/-- Other blocks are to stay. -/
theorem Play.still (h : Play w0 w1 Q L p q d e r s gp gr xp yp xr yr w) (Q' : List Nat) (hl : ∀ y ∈ Q', y < w.heap.size) (ho : ∀ y ∈ Q', ∀ i, i < 6 → y ∉ L i) : Play w0 w Q' L p q d e r s gp gr xp yp xr yr w :=
  { h with ql := hl, qo := ho, qs := fun _ _ => rfl }
/-- The program's first disk and its power have changed. -/
theorem Play.prog (h : Play w0 w1 Q L p q d e r s gp gr xp yp xr yr w) {gp' : Pw} {xp' : Ds} {F ws : List Nat} (hk : Kept w.heap.size ws w w') (hws : ∀ y ∈ ws, y = p ∨ y ∈ L 2) (hF : ∀ y ∈ F, y ∈ L 2 ∨ w.heap.size ≤ y) (hd : PD d p F xp' w') (hp : PP p gp' w') :
    Play w0 w1 Q (upd L 2 F) p q d e r s gp' gr xp' yp xr yr w' := by
  have hkeep : ∀ i, i < 6 → i ≠ 0 → i ≠ 2 → ∀ y ∈ L i, w'.heap[y]? = w.heap[y]? := fun i hi h0 h2 y hy => hk.block y (h.lt i hi y hy) (fun hm => by
    rcases hws y hm with rfl | hm
    · exact h.ap i 0 hi (by omega) h0 y hy (by rw [h.l0]; simp)
    · exact h.ap i 2 hi (by omega) h2 y hy hm)
  have hin : ∀ y ∈ ws, w0.heap.size ≤ y := fun y hy => by
    rcases hws y hy with rfl | hm
    · exact h.low 0 (by omega) y (by rw [h.l0]; simp)
    · exact h.low 2 (by omega) y hm
  exact {
    pp := hp
    rp := (hkeep 1 (by omega) (by omega) (by omega) q (by rw [h.l1]; simp)).trans h.rp
    da := by rw [upd_same]; exact hd
    db := by rw [upd_other L F (by omega)]; exact h.db.keep hk.size (hkeep 3 (by omega) (by omega) (by omega))
    ra := by rw [upd_other L F (by omega)]; exact RDisk.keep h.ra hk.size (hkeep 4 (by omega) (by omega) (by omega))
    rb := by rw [upd_other L F (by omega)]; exact RDisk.keep h.rb hk.size (hkeep 5 (by omega) (by omega) (by omega))
    l0 := by rw [upd_other L F (by omega)]; exact h.l0
    l1 := by rw [upd_other L F (by omega)]; exact h.l1
    ap := h.ap.grow (h.lt) (by omega) hF
    low := h.low' (by omega) hF
    old := h.old.trans ((hk.mono h.old.size (fun _ _ hm => hm)).below hin)
    ql := fun y hy => Nat.lt_of_lt_of_le (h.ql y hy) hk.size
    qo := h.out' (by omega) hF
    qs := fun y hy => (hk.block y (h.ql y hy) (fun hm => by
      rcases hws y hm with rfl | hm
      · exact h.qo y hy 0 (by omega) (by rw [h.l0]; simp)
      · exact h.qo y hy 2 (by omega) hm)).trans (h.qs y hy) }
/-- The document's first disk and its power have changed. -/
theorem Play.docu (h : Play w0 w1 Q L p q d e r s gp gr xp yp xr yr w) {gr' : Pw} {xr' : Ds} {G ws : List Nat} (hk : Kept w.heap.size ws w w') (hws : ∀ y ∈ ws, y = q ∨ y ∈ L 4) (hG : ∀ y ∈ G, y ∈ L 4 ∨ w.heap.size ≤ y) (hd : RD r q G xr' w') (hp : RP q gr' w') :
    Play w0 w1 Q (upd L 4 G) p q d e r s gp gr' xp yp xr' yr w' := by
  have hkeep : ∀ i, i < 6 → i ≠ 1 → i ≠ 4 → ∀ y ∈ L i, w'.heap[y]? = w.heap[y]? := fun i hi h0 h2 y hy => hk.block y (h.lt i hi y hy) (fun hm => by
    rcases hws y hm with rfl | hm
    · exact h.ap i 1 hi (by omega) h0 y hy (by rw [h.l1]; simp)
    · exact h.ap i 4 hi (by omega) h2 y hy hm)
  have hin : ∀ y ∈ ws, w0.heap.size ≤ y := fun y hy => by
    rcases hws y hy with rfl | hm
    · exact h.low 1 (by omega) y (by rw [h.l1]; simp)
    · exact h.low 4 (by omega) y hm
  exact {
    pp := (hkeep 0 (by omega) (by omega) (by omega) p (by rw [h.l0]; simp)).trans h.pp
    rp := hp
    da := by rw [upd_other L G (by omega)]; exact h.da.keep hk.size (hkeep 2 (by omega) (by omega) (by omega))
    db := by rw [upd_other L G (by omega)]; exact h.db.keep hk.size (hkeep 3 (by omega) (by omega) (by omega))
    ra := by rw [upd_same]; exact hd
    rb := by rw [upd_other L G (by omega)]; exact RDisk.keep h.rb hk.size (hkeep 5 (by omega) (by omega) (by omega))
    l0 := by rw [upd_other L G (by omega)]; exact h.l0
    l1 := by rw [upd_other L G (by omega)]; exact h.l1
    ap := h.ap.grow (h.lt) (by omega) hG
    low := h.low' (by omega) hG
    old := h.old.trans ((hk.mono h.old.size (fun _ _ hm => hm)).below hin)
    ql := fun y hy => Nat.lt_of_lt_of_le (h.ql y hy) hk.size
    qo := h.out' (by omega) hG
    qs := fun y hy => (hk.block y (h.ql y hy) (fun hm => by
      rcases hws y hm with rfl | hm
      · exact h.qo y hy 1 (by omega) (by rw [h.l1]; simp)
      · exact h.qo y hy 4 (by omega) hm)).trans (h.qs y hy) }
/-- The disks' places taken the other way round. -/
def swp (L : Nat → List Nat) (i : Nat) : List Nat := if i = 2 then L 3 else if i = 3 then L 2 else if i = 4 then L 5 else if i = 5 then L 4 else L i
theorem Play.swap (h : Play w0 w1 Q L p q d e r s gp gr xp yp xr yr w) : Play w0 w1 Q (swp L) p q e d s r gp gr yp xp yr xr w := by
  have hsw : ∀ i, i < 6 → ∃ j, j < 6 ∧ swp L i = L j ∧ (i = 0 → j = 0) ∧ (i = 1 → j = 1) ∧ (i = 2 → j = 3) ∧ (i = 3 → j = 2) ∧ (i = 4 → j = 5) ∧ (i = 5 → j = 4) := by
    intro i hi
    match i, hi with
    | 0, _ => exact ⟨0, by omega, rfl, by omega, by omega, by omega, by omega, by omega, by omega⟩
    | 1, _ => exact ⟨1, by omega, rfl, by omega, by omega, by omega, by omega, by omega, by omega⟩
    | 2, _ => exact ⟨3, by omega, rfl, by omega, by omega, by omega, by omega, by omega, by omega⟩
    | 3, _ => exact ⟨2, by omega, rfl, by omega, by omega, by omega, by omega, by omega, by omega⟩
    | 4, _ => exact ⟨5, by omega, rfl, by omega, by omega, by omega, by omega, by omega, by omega⟩
    | 5, _ => exact ⟨4, by omega, rfl, by omega, by omega, by omega, by omega, by omega, by omega⟩
  exact {
    pp := h.pp, rp := h.rp, da := h.db, db := h.da, ra := h.rb, rb := h.ra, l0 := h.l0, l1 := h.l1
    ap := by
      intro i j hi hj hij y hy
      obtain ⟨i', hi', e1, a1⟩ := hsw i hi
      obtain ⟨j', hj', e2, a2⟩ := hsw j hj
      rw [e1] at hy
      rw [e2]
      exact h.ap i' j' hi' hj' (by omega) y hy
    low := by
      intro i hi y hy
      obtain ⟨i', hi', e1, _⟩ := hsw i hi
      rw [e1] at hy
      exact h.low i' hi' y hy
    old := h.old
    ql := h.ql
    qo := by
      intro y hy i hi hm
      obtain ⟨i', hi', e1, _⟩ := hsw i hi
      rw [e1] at hm
      exact h.qo y hy i' hi' hm
    qs := h.qs }
/-! The calls. -/
theorem Play.cellQ (h : Play w0 w1 Q L p q d e r s gp gr xp yp xr yr w) {y j : Nat} (hy : y ∈ Q) {v : Value} (hv : w1.cell? ⟨y, j, none⟩ = some v) : w.cell? ⟨y, j, none⟩ = some v := (World.cell?_of_block (w := w1) (a := ⟨y, j, none⟩) (h.qs y hy)).trans hv
theorem Play.pread (h : Play w0 w1 Q L p q d e r s gp gr xp yp xr yr w) (a : Int) (t : ByteArray) (ht : t.data.toList = readC gp xp a) : Calls Try.prog 14 #[.pointer (some ⟨d, 0, none⟩), .int .i64 a] w fun o w' => ∃ v, o = .returned (.tuple #[.string t, v]) ∧ ErrIs (badC gp xp a) v w' ∧ Play w0 w1 Q L p q d e r s gp gr xp yp xr yr w' := by
  refine (pread_any h.da h.pp a t ht).mono ?_
  rintro o w' ⟨v, rfl, he, hb⟩
  exact ⟨v, rfl, he, h.below hb⟩
theorem Play.rread (h : Play w0 w1 Q L p q d e r s gp gr xp yp xr yr w) (a : Int) : Calls Try.prog 21 #[.pointer (some ⟨r, 0, none⟩), .int .i64 a] w fun o w' => o = .returned (.tuple #[sv (readC gr xr a), .int .i64 (badC gr xr a)]) ∧ w = w' := rread_any h.ra h.rp a
theorem Play.pwrite (h : Play w0 w1 Q L p q d e r s gp gr xp yp xr yr w) (hg : gp.ok) (hx : xp.ok) (a : Int) (t : ByteArray) : Calls Try.prog 12 #[.pointer (some ⟨d, 0, none⟩), .int .i64 a, .string t] w fun o w' => ∃ v, o = .returned v ∧ ErrIs (writeC gp xp a t.data.toList) v w' ∧ ∃ L', Play w0 w1 Q L' p q d e r s (writeG gp xp a t.data.toList) gr (writeX gp xp a t.data.toList) yp xr yr w' := by
  refine (pwrite_any h.da h.pp hg hx a t).mono ?_
  rintro o w' ⟨v, rfl, he, F, hd, hp, hF, hk⟩
  exact ⟨v, rfl, he, _, h.prog hk (fun y hy => by simpa using hy) hF hd hp⟩
theorem Play.rwrite (h : Play w0 w1 Q L p q d e r s gp gr xp yp xr yr w) (hg : gr.ok) (hx : xr.ok) (a : Int) (t : ByteArray) : Calls Try.prog 23 #[.pointer (some ⟨r, 0, none⟩), .int .i64 a, .string t] w fun o w' => o = .returned (.int .i64 (writeC gr xr a t.data.toList)) ∧ ∃ L', Play w0 w1 Q L' p q d e r s gp (writeG gr xr a t.data.toList) xp yp (writeX gr xr a t.data.toList) yr w' := by
  refine (rwrite_any h.ra h.rp hg hx a t).mono ?_
  rintro o w' ⟨rfl, G, hd, hp, hG, hk⟩
  exact ⟨rfl, _, h.docu hk (fun y hy => by simpa using hy) hG hd hp⟩
theorem Play.pflush (h : Play w0 w1 Q L p q d e r s gp gr xp yp xr yr w) (hg : gp.ok) : Calls Try.prog 25 #[.pointer (some ⟨d, 0, none⟩)] w fun o w' => ∃ v, o = .returned v ∧ ErrIs (flushC gp xp) v w' ∧ ∃ L', Play w0 w1 Q L' p q d e r s (flushG gp xp) gr (flushX gp xp) yp xr yr w' := by
  refine (pflush_any h.da h.pp hg).mono ?_
  rintro o w' ⟨v, rfl, he, hd, hp, hk⟩
  exact ⟨v, rfl, he, _, h.prog hk (fun y hy => by simpa using hy) (fun y hy => Or.inl hy) hd hp⟩
theorem Play.rflush (h : Play w0 w1 Q L p q d e r s gp gr xp yp xr yr w) (hg : gr.ok) : Calls Try.prog 24 #[.pointer (some ⟨r, 0, none⟩)] w fun o w' => o = .returned (.int .i64 (flushC gr xr)) ∧ ∃ L', Play w0 w1 Q L' p q d e r s gp (flushG gr xr) xp yp (flushX gr xr) yr w' := by
  refine (rflush_any h.ra h.rp hg).mono ?_
  rintro o w' ⟨rfl, hd, hp, hk⟩
  exact ⟨rfl, _, h.docu hk (fun y hy => by simpa using hy) (fun y hy => Or.inl hy) hd hp⟩
theorem Play.plose (h : Play w0 w1 Q L p q d e r s gp gr xp yp xr yr w) (kv : Value) (kb ko : Nat) (ks : List Nat) (keep : List Bool) (t : Int) (hy : Yes kv kb ko ks keep w1) (hks : ∀ k ∈ ks, k ∈ Q) : Calls Try.prog 16 #[.pointer (some ⟨d, 0, none⟩), kv, .int .i64 t] w fun o w' => o = .returned (.tuple #[]) ∧ ∃ L', Play w0 w1 Q L' p q d e r s gp gr (loseX xp keep t) yp xr yr w' := by
  refine (plose_any h.da kv kb ko ks keep t (hy.keep (fun k hk => h.qs k (hks k hk))) (fun k hk => ⟨h.ql k (hks k hk), h.qo k (hks k hk) 2 (by omega)⟩)).mono ?_
  rintro o w' ⟨rfl, hd, hk⟩
  have hpk : w'.heap[p]? = w.heap[p]? := hk.block p h.pp.lt h.da.in_F.2.1
  exact ⟨rfl, _, h.prog hk (fun y hy => Or.inr hy) (fun y hy => Or.inl hy) hd (hpk.trans h.pp)⟩
theorem Play.rlose (h : Play w0 w1 Q L p q d e r s gp gr xp yp xr yr w) (kv : Value) (kb ko : Nat) (ks : List Nat) (keep : List Bool) (t : Int) (hy : Yes kv kb ko ks keep w1) (hks : ∀ k ∈ ks, k ∈ Q) : Calls Try.prog 26 #[.pointer (some ⟨r, 0, none⟩), kv, .int .i64 t] w fun o w' => o = .returned (.tuple #[]) ∧ ∃ L', Play w0 w1 Q L' p q d e r s gp gr xp yp (loseX xr keep t) yr w' := by
  refine (rlose_any h.ra kv kb ko ks keep t (hy.keep (fun k hk => h.qs k (hks k hk))) (fun k hk => ⟨h.ql k (hks k hk), h.qo k (hks k hk) 4 (by omega)⟩)).mono ?_
  rintro o w' ⟨rfl, hd, hk⟩
  have hpk : w'.heap[q]? = w.heap[q]? := hk.block q h.rp.lt h.ra.in_G.2.1
  exact ⟨rfl, _, h.docu hk (fun y hy => Or.inr hy) (fun y hy => Or.inl hy) hd (hpk.trans h.rp)⟩
theorem Play.pkill (h : Play w0 w1 Q L p q d e r s gp gr xp yp xr yr w) (hx : xp.ok) : Calls Try.prog 28 #[.pointer (some ⟨d, 0, none⟩)] w fun o w' => o = .returned (.tuple #[]) ∧ ∃ L', Play w0 w1 Q L' p q d e r s gp gr (killX xp) yp xr yr w' := by
  refine (pkill_any h.da hx).mono ?_
  rintro o w' ⟨rfl, hd, hk⟩
  have hpk : w'.heap[p]? = w.heap[p]? := hk.block p h.pp.lt h.da.in_F.2.1
  exact ⟨rfl, _, h.prog hk (fun y hy => Or.inr hy) (fun y hy => Or.inl hy) hd (hpk.trans h.pp)⟩
theorem Play.rkill (h : Play w0 w1 Q L p q d e r s gp gr xp yp xr yr w) (hx : xr.ok) : Calls Try.prog 27 #[.pointer (some ⟨r, 0, none⟩)] w fun o w' => o = .returned (.tuple #[]) ∧ ∃ L', Play w0 w1 Q L' p q d e r s gp gr xp yp (killX xr) yr w' := by
  refine (rkill_any h.ra hx).mono ?_
  rintro o w' ⟨rfl, hd, hk⟩
  have hpk : w'.heap[q]? = w.heap[q]? := hk.block q h.rp.lt h.ra.in_G.2.1
  exact ⟨rfl, _, h.docu hk (fun y hy => Or.inr hy) (fun y hy => Or.inl hy) hd (hpk.trans h.rp)⟩
theorem Play.preplace (h : Play w0 w1 Q L p q d e r s gp gr xp yp xr yr w) (hx : xp.ok) : Calls Try.prog 30 #[.pointer (some ⟨d, 0, none⟩)] w fun o w' => o = .returned (.tuple #[]) ∧ ∃ L', Play w0 w1 Q L' p q d e r s gp gr (replaceX xp) yp xr yr w' := by
  refine (preplace_any h.da h.pp hx).mono ?_
  rintro o w' ⟨rfl, F, hd, hF, hk⟩
  have hpk : w'.heap[p]? = w.heap[p]? := hk.block p h.pp.lt h.da.in_F.2.1
  exact ⟨rfl, _, h.prog hk (fun y hy => Or.inr hy) hF hd (hpk.trans h.pp)⟩
theorem Play.rreplace (h : Play w0 w1 Q L p q d e r s gp gr xp yp xr yr w) (hx : xr.ok) : Calls Try.prog 29 #[.pointer (some ⟨r, 0, none⟩)] w fun o w' => o = .returned (.tuple #[]) ∧ ∃ L', Play w0 w1 Q L' p q d e r s gp gr xp yp (replaceX xr) yr w' := by
  refine (rreplace_any h.ra h.rp hx).mono ?_
  rintro o w' ⟨rfl, G, hd, hG, hk⟩
  have hpk : w'.heap[q]? = w.heap[q]? := hk.block q h.rp.lt h.ra.in_G.2.1
  exact ⟨rfl, _, h.docu hk (fun y hy => Or.inr hy) hG hd (hpk.trans h.rp)⟩
theorem Play.prot (h : Play w0 w1 Q L p q d e r s gp gr xp yp xr yr w) (a b : Int) : Calls Try.prog 32 #[.pointer (some ⟨d, 0, none⟩), .int .i64 a, .int .i64 b] w fun o w' => ∃ v, o = .returned v ∧ ErrIs (rotC xp a b) v w' ∧ ∃ L', Play w0 w1 Q L' p q d e r s gp gr (rotX xp a b) yp xr yr w' := by
  refine (prot_any h.da h.pp a b).mono ?_
  rintro o w' ⟨v, rfl, he, hd, hk⟩
  have hpk : w'.heap[p]? = w.heap[p]? := hk.block p h.pp.lt h.da.in_F.2.1
  exact ⟨v, rfl, he, _, h.prog hk (fun y hy => Or.inr hy) (fun y hy => Or.inl hy) hd (hpk.trans h.pp)⟩
theorem Play.rrot (h : Play w0 w1 Q L p q d e r s gp gr xp yp xr yr w) (a b : Int) : Calls Try.prog 31 #[.pointer (some ⟨r, 0, none⟩), .int .i64 a, .int .i64 b] w fun o w' => o = .returned (.int .i64 (rotC xr a b)) ∧ ∃ L', Play w0 w1 Q L' p q d e r s gp gr xp yp (rotX xr a b) yr w' := by
  refine (rrot_any h.ra a b).mono ?_
  rintro o w' ⟨rfl, hd, hk⟩
  have hpk : w'.heap[q]? = w.heap[q]? := hk.block q h.rp.lt h.ra.in_G.2.1
  exact ⟨rfl, _, h.docu hk (fun y hy => Or.inr hy) (fun y hy => Or.inl hy) hd (hpk.trans h.rp)⟩
theorem Play.pimage (h : Play w0 w1 Q L p q d e r s gp gr xp yp xr yr w) (t : ByteArray) (ht : t.data.toList = imageC xp) : Calls Try.prog 11 #[.pointer (some ⟨d, 0, none⟩)] w fun o w' => o = .returned (.string t) ∧ Play w0 w1 Q L p q d e r s gp gr xp yp xr yr w' := by
  refine (pimage_any h.da t ht).mono ?_
  rintro o w' ⟨rfl, hb⟩
  exact ⟨rfl, h.below hb⟩
theorem Play.rimage (h : Play w0 w1 Q L p q d e r s gp gr xp yp xr yr w) : Calls Try.prog 10 #[.pointer (some ⟨r, 0, none⟩)] w fun o w' => o = .returned (sv (imageC xr)) ∧ Play w0 w1 Q L p q d e r s gp gr xp yp xr yr w' := by
  refine (rimage_any h.ra).mono ?_
  rintro o w' ⟨rfl, hb⟩
  exact ⟨rfl, h.below hb⟩
theorem is_any {c : Int} {v : Value} (h : ErrIs c v w) : Calls Try.prog 22 #[v, .int .i64 c] w fun o w' => o = .returned (.bool true) ∧ w = w' := by
  rcases h with ⟨rfl, rfl⟩ | ⟨hc, gb, rfl, hf⟩
  · exact is_none w
  · exact is_fault gb c hc w hf
end
end Go.Proofs.Ytkpnllaegkdkkaa
