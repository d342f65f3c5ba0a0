/- Two disks side by side: what is asked behind each step, the power, what a step leaves. -/
import Derived.Test.YtkpnllaegkdkkaaPPlay
import Derived.Test.YtkpnllaegkdkkaaDTurns
namespace Go.Proofs.Ytkpnllaegkdkkaa
open Go.RowKit

/-- A power, a disk behind so many steps. -/
def Pw.okN (N : Nat) (g : Pw) : Prop := -1 ≤ g.left ∧ g.left ≤ 9223372036854775807 ∧ 0 ≤ g.acts ∧ g.acts ≤ N
def Ds.okN (N : Nat) (x : Ds) : Prop := x.ps.length ≤ N ∧ 0 ≤ x.life ∧ x.life ≤ N
theorem Pw.okN.ok {N : Nat} {g : Pw} (h : g.okN N) (hN : N ≤ 1000) : g.ok := by obtain ⟨h1, h2, h3, h4⟩ := h; exact ⟨h1, h2, h3, by omega⟩
theorem Ds.okN.ok {N : Nat} {x : Ds} (h : x.okN N) (hN : N ≤ 1000) : x.ok := by obtain ⟨h1, h2, h3⟩ := h; exact ⟨by omega, h2, by omega⟩
theorem Pw.okN.more {N : Nat} {g : Pw} (h : g.okN N) : g.okN (N + 1) := by obtain ⟨h1, h2, h3, h4⟩ := h; exact ⟨h1, h2, h3, by omega⟩
theorem Ds.okN.more {N : Nat} {x : Ds} (h : x.okN N) : x.okN (N + 1) := by obtain ⟨h1, h2, h3⟩ := h; exact ⟨by omega, h2, by omega⟩
theorem Pw.okN.act {N : Nat} {g : Pw} (h : g.okN N) : g.act.okN (N + 1) := by
  unfold Pw.act
  by_cases hl : g.left = 0
  · rw [if_pos hl]; exact h.more
  · rw [if_neg hl]
    obtain ⟨h1, h2, h3, h4⟩ := h
    refine ⟨?_, ?_, by show (0 : Int) ≤ g.acts + 1; omega, by show g.acts + 1 ≤ ((N + 1 : Nat) : Int); omega⟩
    · show -1 ≤ less g.left
      unfold less; split <;> omega
    · show less g.left ≤ 9223372036854775807
      unfold less; split <;> omega
theorem writeG_ok {N : Nat} {g : Pw} {x : Ds} {a : Int} {s : List UInt8} (h : g.okN N) : (writeG g x a s).okN (N + 1) := by unfold writeG; split; exact h.more; exact h.act
theorem flushG_ok {N : Nat} {g : Pw} {x : Ds} (h : g.okN N) : (flushG g x).okN (N + 1) := by unfold flushG; split; exact h.more; exact h.act
theorem writeX_ok {N : Nat} {g : Pw} {x : Ds} {a : Int} {s : List UInt8} (h : x.okN N) : (writeX g x a s).okN (N + 1) := by
  unfold writeX; split
  · obtain ⟨h1, h2, h3⟩ := h; exact ⟨by simp only [List.length_append, List.length_singleton]; omega, h2, by show x.life ≤ _; omega⟩
  · exact h.more
theorem flushX_ok {N : Nat} {g : Pw} {x : Ds} (h : x.okN N) : (flushX g x).okN (N + 1) := by
  unfold flushX; split
  · obtain ⟨h1, h2, h3⟩ := h; exact ⟨Nat.zero_le _, h2, by show x.life ≤ _; omega⟩
  · exact h.more
theorem loseX_ok {N : Nat} {x : Ds} {k : List Bool} {t : Int} (h : x.okN N) : (loseX x k t).okN (N + 1) := by obtain ⟨h1, h2, h3⟩ := h; exact ⟨Nat.zero_le _, h2, by show x.life ≤ _; omega⟩
theorem killX_ok {N : Nat} {x : Ds} (h : x.okN N) : (killX x).okN (N + 1) := by obtain ⟨h1, h2, h3⟩ := h; exact ⟨Nat.zero_le _, by show 0 ≤ x.life + 1; omega, by show x.life + 1 ≤ _; omega⟩
theorem replaceX_ok {N : Nat} {x : Ds} (h : x.okN N) : (replaceX x).okN (N + 1) := by obtain ⟨h1, h2, h3⟩ := h; exact ⟨Nat.zero_le _, by show 0 ≤ x.life + 1; omega, by show x.life + 1 ≤ _; omega⟩
theorem rotX_ok {N : Nat} {x : Ds} {a b : Int} (h : x.okN N) : (rotX x a b).okN (N + 1) := by unfold rotX; split; exact h.more; exact h.more
def fuseG (g : Pw) (n : Int) : Pw := { g with left := max n (-1) }
def cutG (g : Pw) : Pw := { g with gone := true }
def onG (g : Pw) : Pw := { g with gone := false, left := -1 }
theorem fuseG_ok {N : Nat} {g : Pw} {n : Int} (h : g.okN N) (hn : n ≤ 9223372036854775807) : (fuseG g n).okN (N + 1) := by obtain ⟨h1, h2, h3, h4⟩ := h; exact ⟨by show -1 ≤ max n (-1); omega, by show max n (-1) ≤ _; omega, h3, by show g.acts ≤ _; omega⟩
theorem cutG_ok {N : Nat} {g : Pw} (h : g.okN N) : (cutG g).okN (N + 1) := h.more
theorem onG_ok {N : Nat} {g : Pw} (h : g.okN N) : (onG g).okN (N + 1) := by obtain ⟨h1, h2, h3, h4⟩ := h; exact ⟨by show (-1 : Int) ≤ -1; omega, by show (-1 : Int) ≤ _; omega, h3, by show g.acts ≤ _; omega⟩

section
variable {w0 w1 : World} {Q : List Nat} {L : Nat → List Nat} {p q d e r s : Nat} {gp gr : Pw} {xp yp xr yr : Ds} {w w' : World}
/-- One block more, which stays as it is laid. -/
theorem Play.boxed (h : Play w0 w1 Q L p q d e r s gp gr xp yp xr yr w) (c : Obj) : Play w0 (w.alloc c) (w.heap.size :: Q) L p q d e r s gp gr xp yp xr yr (w.alloc c) := by
  have hb : Below w.heap.size w (w.alloc c) := (Below.refl _ _).alloc (Nat.le_refl _) _
  refine (h.below hb).still _ (fun y hy => ?_) (fun y hy i hi hm => ?_)
  · rcases List.mem_cons.1 hy with rfl | hy
    · simp
    · exact (h.below hb).ql y hy
  · rcases List.mem_cons.1 hy with rfl | hy
    · exact Nat.lt_irrefl _ (h.lt i hi _ hm)
    · exact h.qo y hy i hi hm
theorem Play.back {w2 : World} {z : Nat} (h : Play w0 w2 (z :: Q) L p q d e r s gp gr xp yp xr yr w') (hq : ∀ y ∈ Q, w2.heap[y]? = w1.heap[y]?) : Play w0 w1 Q L p q d e r s gp gr xp yp xr yr w' :=
  { h with ql := fun y hy => h.ql y (List.mem_cons_of_mem _ hy), qo := fun y hy => h.qo y (List.mem_cons_of_mem _ hy), qs := fun y hy => (h.qs y (List.mem_cons_of_mem _ hy)).trans (hq y hy) }
theorem Play.pgone (h : Play w0 w1 Q L p q d e r s gp gr xp yp xr yr w) : Calls Try.prog 36 #[.pointer (some ⟨p, 0, none⟩)] w fun o w' => o = .returned (.bool gp.gone) ∧ w = w' := Gone_any p _ _ _ w h.pp
theorem Play.pacts (h : Play w0 w1 Q L p q d e r s gp gr xp yp xr yr w) : Calls Try.prog 17 #[.pointer (some ⟨p, 0, none⟩)] w fun o w' => o = .returned (.int .i64 gp.acts) ∧ w = w' := Acts_any p _ _ _ w h.pp
theorem Play.ppending (h : Play w0 w1 Q L p q d e r s gp gr xp yp xr yr w) : Calls Try.prog 15 #[.pointer (some ⟨d, 0, none⟩)] w fun o w' => o = .returned (.int .i64 xp.ps.length) ∧ w = w' := ppending_any h.da
theorem Play.pdead (h : Play w0 w1 Q L p q d e r s gp gr xp yp xr yr w) : Calls Try.prog 37 #[.pointer (some ⟨d, 0, none⟩)] w fun o w' => o = .returned (.bool xp.dead) ∧ w = w' := pdead_any h.da
theorem Play.plife (h : Play w0 w1 Q L p q d e r s gp gr xp yp xr yr w) : Calls Try.prog 38 #[.pointer (some ⟨d, 0, none⟩)] w fun o w' => o = .returned (.int .i64 xp.life) ∧ w = w' := plife_any h.da
theorem Play.psectors (h : Play w0 w1 Q L p q d e r s gp gr xp yp xr yr w) : Calls Try.prog 39 #[.pointer (some ⟨d, 0, none⟩)] w fun o w' => o = .returned (.int .i64 xp.n) ∧ w = w' := psectors_any h.da
/-- What the document's disk and power say of themselves. -/
theorem Play.rtell (h : Play w0 w1 Q L p q d e r s gp gr xp yp xr yr w) : w.cell? ⟨q, 0, none⟩ = some (.bool gr.gone) ∧ w.cell? ⟨q, 2, none⟩ = some (.int .i64 gr.acts) ∧ (∃ a cap, w.cell? ⟨r, 3, none⟩ = some (.slice a xr.ps.length cap)) ∧ w.cell? ⟨r, 4, none⟩ = some (.bool xr.dead) ∧ w.cell? ⟨r, 5, none⟩ = some (.int .i64 xr.life) ∧ w.cell? ⟨r, 1, none⟩ = some (.int .i64 xr.n) := by
  have hp : RPow q gr.gone gr.left gr.acts w := h.rp
  obtain ⟨hv, wv, hr, _⟩ := h.ra
  refine ⟨hp.c0, hp.c2, ?_, hr.c4, hr.c5, hr.c1⟩
  obtain ⟨b, cap, hw, _⟩ := hr.late
  exact ⟨b, cap, by rw [hr.c3, hw]⟩
/-- The program's power alone has changed. -/
theorem Play.power (h : Play w0 w1 Q L p q d e r s gp gr xp yp xr yr w) {gp' : Pw} (hk : Kept w.heap.size [p] w w') (hp : PP p gp' w') : ∃ L', Play w0 w1 Q L' p q d e r s gp' gr xp yp xr yr w' :=
  ⟨_, h.prog hk (fun y hy => by simp at hy; exact Or.inl hy) (fun y hy => Or.inl hy) (h.da.kept hk (fun y hy hm => h.da.in_F.2.1 (by simp at hm; exact hm ▸ hy))) hp⟩
theorem Play.rpower (h : Play w0 w1 Q L p q d e r s gp gr xp yp xr yr w) {gr' : Pw} (hk : Kept w.heap.size [q] w w') (hp : RP q gr' w') : ∃ L', Play w0 w1 Q L' p q d e r s gp gr' xp yp xr yr w' :=
  ⟨_, h.docu hk (fun y hy => by simp at hy; exact Or.inl hy) (fun y hy => Or.inl hy) (RDisk.kept h.ra hk (fun y hy hm => (RD.in_G h.ra).2.1 (by simp at hm; exact hm ▸ hy))) hp⟩
theorem Play.pfuse (h : Play w0 w1 Q L p q d e r s gp gr xp yp xr yr w) (n : Int) : Calls Try.prog 33 #[.pointer (some ⟨p, 0, none⟩), .int .i64 n] w fun o w' => o = .returned (.tuple #[]) ∧ ∃ L', Play w0 w1 Q L' p q d e r s (fuseG gp n) gr xp yp xr yr w' := by
  refine (Fuse_all p _ _ _ n w h.pp).mono ?_
  rintro o w' ⟨rfl, hp, hk⟩
  exact ⟨rfl, h.power hk hp⟩
theorem Play.pcut (h : Play w0 w1 Q L p q d e r s gp gr xp yp xr yr w) : Calls Try.prog 34 #[.pointer (some ⟨p, 0, none⟩)] w fun o w' => o = .returned (.tuple #[]) ∧ ∃ L', Play w0 w1 Q L' p q d e r s (cutG gp) gr xp yp xr yr w' := by
  refine (Cut_any p _ _ _ w h.pp).mono ?_
  rintro o w' ⟨rfl, hp, hk⟩
  exact ⟨rfl, h.power hk hp⟩
theorem Play.pon (h : Play w0 w1 Q L p q d e r s gp gr xp yp xr yr w) : Calls Try.prog 35 #[.pointer (some ⟨p, 0, none⟩)] w fun o w' => o = .returned (.tuple #[]) ∧ ∃ L', Play w0 w1 Q L' p q d e r s (onG gp) gr xp yp xr yr w' := by
  refine (On_any p _ _ _ w h.pp).mono ?_
  rintro o w' ⟨rfl, hp, hk⟩
  exact ⟨rfl, h.power hk hp⟩
/-- The document's power: a cell stored. -/
theorem Play.rset (h : Play w0 w1 Q L p q d e r s gp gr xp yp xr yr w) (j : Nat) (v : Value) {gr' : Pw} (hv : [Value.bool gr.gone, .int .i64 gr.left, .int .i64 gr.acts].set j v = [Value.bool gr'.gone, .int .i64 gr'.left, .int .i64 gr'.acts]) : ∃ L', Play w0 w1 Q L' p q d e r s gp gr' xp yp xr yr (w.setCell ⟨q, j, none⟩ v) := by
  have hp : w.heap[q]? = some (.cells [Value.bool gr.gone, .int .i64 gr.left, .int .i64 gr.acts].toArray 29 (0, 0)) := h.rp
  refine h.rpower ((Kept.refl _ _ _).setCell (p := ⟨q, j, none⟩) (by simp) _) ?_
  have := set_list hp j v
  rw [hv] at this
  exact this
theorem Play.rfree (h : Play w0 w1 Q L p q d e r s gp gr xp yp xr yr w) : ∀ j, w.frozen? ⟨q, j, none⟩ = false := by
  have hp : w.heap[q]? = some (.cells [Value.bool gr.gone, .int .i64 gr.left, .int .i64 gr.acts].toArray 29 (0, 0)) := h.rp
  exact free_of_list hp
end
end Go.Proofs.Ytkpnllaegkdkkaa
