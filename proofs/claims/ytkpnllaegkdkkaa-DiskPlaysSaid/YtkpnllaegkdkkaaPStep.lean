/- One step of two disks side by side: what the kinds share. -/
import Derived.Test.YtkpnllaegkdkkaaPTell
import Derived.Deep.RegionHeld3
namespace Go.Proofs.Ytkpnllaegkdkkaa
open Go.RowKit

/-- Where the world's own block tells its parts. -/
structure Wld (b p q d r k : Nat) (w : World) : Prop where
  y0 : w.cell? ⟨b, 0, none⟩ = some (.pointer (some ⟨p, 0, none⟩))
  y1 : w.cell? ⟨b, 1 + k, none⟩ = some (.pointer (some ⟨d, 0, none⟩))
  y3 : w.cell? ⟨b, 3, none⟩ = some (.pointer (some ⟨q, 0, none⟩))
  y4 : w.cell? ⟨b, 4 + k, none⟩ = some (.pointer (some ⟨r, 0, none⟩))
/-- The step's own variable. -/
structure Box (z : Nat) (kd on a n : Int) (s : ByteArray) (kv : Value) (w : World) : Prop where
  x0 : w.cell? ⟨z, 0, none⟩ = some (.int .i64 kd)
  x1 : w.cell? ⟨z, 1, none⟩ = some (.int .i64 on)
  x2 : w.cell? ⟨z, 2, none⟩ = some (.int .i64 a)
  x3 : w.cell? ⟨z, 3, none⟩ = some (.int .i64 n)
  x4 : w.cell? ⟨z, 4, none⟩ = some (.string s)
  x5 : w.cell? ⟨z, 5, none⟩ = some kv
section
variable {w0 w1 : World} {Q : List Nat} {L : Nat → List Nat} {p q d e r s : Nat} {gp gr : Pw} {xp yp xr yr : Ds} {w w' : World}
theorem Play.wld (h : Play w0 w1 Q L p q d e r s gp gr xp yp xr yr w) {b k : Nat} (hb : b ∈ Q) (T : Wld b p q d r k w1) : Wld b p q d r k w :=
  ⟨h.cellQ hb T.y0, h.cellQ hb T.y1, h.cellQ hb T.y3, h.cellQ hb T.y4⟩
theorem Play.box (h : Play w0 w1 Q L p q d e r s gp gr xp yp xr yr w) {z : Nat} {kd on a n : Int} {t : ByteArray} {kv : Value} (hz : z ∈ Q) (T : Box z kd on a n t kv w1) : Box z kd on a n t kv w :=
  ⟨h.cellQ hz T.x0, h.cellQ hz T.x1, h.cellQ hz T.x2, h.cellQ hz T.x3, h.cellQ hz T.x4, h.cellQ hz T.x5⟩
theorem Play.drew (h : Play w0 w1 Q L p q d e r s gp gr xp yp xr yr w) : Play w0 w1 Q L p q d e r s gp gr xp yp xr yr w.drew := h.below (Below.refl _ _).drew
/-- All that the walk of a step looks at. -/
structure SAt (w0 w1 : World) (Q : List Nat) (b z k : Nat) (p q d e r s : Nat) (gp gr : Pw) (xp yp xr yr : Ds) (kd on a n : Int) (t : ByteArray) (kv : Value) (w : World) : Prop where
  pl : ∃ L, Play w0 w1 (z :: Q) L p q d e r s gp gr xp yp xr yr w
  wl : Wld b p q d r k w1
  bx : Box z kd on a n t kv w1
  bq : b ∈ Q
variable {b z k : Nat} {kd on a n : Int} {t : ByteArray} {kv : Value}
theorem SAt.wo (h : SAt w0 w1 Q b z k p q d e r s gp gr xp yp xr yr kd on a n t kv w) : Wld b p q d r k w := by
  obtain ⟨⟨L, hp⟩, h1, _, h3⟩ := h; exact hp.wld (List.mem_cons_of_mem _ h3) h1
theorem SAt.bo (h : SAt w0 w1 Q b z k p q d e r s gp gr xp yp xr yr kd on a n t kv w) : Box z kd on a n t kv w := by
  obtain ⟨⟨L, hp⟩, _, h2, _⟩ := h; exact hp.box (List.mem_cons_self ..) h2
/-- What is at hand in a world. -/
def Here (b z k p q d r : Nat) (kd on a n : Int) (t : ByteArray) (kv : Value) (w : World) : Prop :=
  (w.cell? ⟨b, 0, none⟩ = some (.pointer (some ⟨p, 0, none⟩)) ∧ w.cell? ⟨b, 1 + k, none⟩ = some (.pointer (some ⟨d, 0, none⟩)) ∧ w.cell? ⟨b, 3, none⟩ = some (.pointer (some ⟨q, 0, none⟩)) ∧ w.cell? ⟨b, 4 + k, none⟩ = some (.pointer (some ⟨r, 0, none⟩))) ∧
  w.cell? ⟨z, 0, none⟩ = some (.int .i64 kd) ∧ w.cell? ⟨z, 1, none⟩ = some (.int .i64 on) ∧ w.cell? ⟨z, 2, none⟩ = some (.int .i64 a) ∧ w.cell? ⟨z, 3, none⟩ = some (.int .i64 n) ∧ w.cell? ⟨z, 4, none⟩ = some (.string t) ∧ w.cell? ⟨z, 5, none⟩ = some kv
theorem SAt.here (h : SAt w0 w1 Q b z k p q d e r s gp gr xp yp xr yr kd on a n t kv w) : Here b z k p q d r kd on a n t kv w := by
  have h1 := h.wo
  have h2 := h.bo
  exact ⟨⟨h1.y0, h1.y1, h1.y3, h1.y4⟩, h2.x0, h2.x1, h2.x2, h2.x3, h2.x4, h2.x5⟩
/-- The step's variable is laid. -/
theorem Play.enter {L : Nat → List Nat} (h : Play w0 w1 Q L p q d e r s gp gr xp yp xr yr w) (hb : b ∈ Q) (T : Wld b p q d r k w1) (kd on a n : Int) (t : ByteArray) (kv : Value) :
    ∃ w2 z, w2 = w.alloc (.cells #[.int .i64 kd, .int .i64 on, .int .i64 a, .int .i64 n, .string t, kv] 46) ∧ z = w.heap.size ∧ SAt w0 w2 Q b z k p q d e r s gp gr xp yp xr yr kd on a n t kv w2 ∧ ∀ y ∈ Q, w2.heap[y]? = w1.heap[y]? := by
  have hbl : Below w.heap.size w (w.alloc (.cells #[.int .i64 kd, .int .i64 on, .int .i64 a, .int .i64 n, .string t, kv] 46)) := (Below.refl _ _).alloc (Nat.le_refl _) _
  have hg : (w.alloc (.cells #[.int .i64 kd, .int .i64 on, .int .i64 a, .int .i64 n, .string t, kv] 46)).heap[w.heap.size]? = some (.cells [Value.int .i64 kd, .int .i64 on, .int .i64 a, .int .i64 n, .string t, kv].toArray 46 (0, 0)) := heap_alloc_new _ _
  refine ⟨_, _, rfl, rfl, ⟨⟨L, h.boxed _⟩, (h.below hbl).wld hb T, ?_, hb⟩, fun y hy => (hbl.block y (h.ql y hy)).trans (h.qs y hy)⟩
  constructor <;> (rw [cell_of_list hg]; rfl)
end
/-- What a step answers and leaves. -/
def Stepped (w0 w1 : World) (Q : List Nat) (p q d e r s N : Nat) (y y' : Ds) (o : Ending) (w' : World) : Prop :=
  o = .returned (.bool true) ∧ ∃ L' g x, g.okN (N + 1) ∧ x.okN (N + 1) ∧ Play w0 w1 Q L' p q d e r s g g x y x y' w'
theorem SAt.done {w0 w1 w2 w : World} {Q : List Nat} {b z k p q d e r s N : Nat} {g : Pw} {x y y' : Ds} {kd on a n : Int} {t : ByteArray} {kv : Value} (h : SAt w0 w2 Q b z k p q d e r s g g x y x y' kd on a n t kv w) (hq : ∀ y ∈ Q, w2.heap[y]? = w1.heap[y]?) (hg : g.okN (N + 1)) (hx : x.okN (N + 1)) :
    Stepped w0 w1 Q p q d e r s N y y' (.returned (.bool true)) w := by
  obtain ⟨⟨L, hp⟩, _⟩ := h
  exact ⟨rfl, L, g, x, hg, hx, hp.back hq⟩
section
variable {w0 w1 : World} {Q : List Nat} {b z k p q d e r s : Nat} {gp gr : Pw} {xp yp xr yr : Ds} {kd on a n : Int} {t : ByteArray} {kv : Value} {w w' : World}
theorem SAt.move {gp' gr' : Pw} {xp' xr' : Ds} (h : SAt w0 w1 Q b z k p q d e r s gp gr xp yp xr yr kd on a n t kv w) (hp : ∃ L, Play w0 w1 (z :: Q) L p q d e r s gp' gr' xp' yp xr' yr w') : SAt w0 w1 Q b z k p q d e r s gp' gr' xp' yp xr' yr kd on a n t kv w' := ⟨hp, h.wl, h.bx, h.bq⟩
theorem SAt.below (h : SAt w0 w1 Q b z k p q d e r s gp gr xp yp xr yr kd on a n t kv w) (hb : Below w.heap.size w w') : SAt w0 w1 Q b z k p q d e r s gp gr xp yp xr yr kd on a n t kv w' := by
  obtain ⟨L, hp⟩ := h.pl; exact h.move ⟨L, hp.below hb⟩
theorem SAt.drew (h : SAt w0 w1 Q b z k p q d e r s gp gr xp yp xr yr kd on a n t kv w) : SAt w0 w1 Q b z k p q d e r s gp gr xp yp xr yr kd on a n t kv w.drew := h.below (Below.refl _ _).drew
theorem SAt.drewN (h : SAt w0 w1 Q b z k p q d e r s gp gr xp yp xr yr kd on a n t kv w) (m : Nat) : SAt w0 w1 Q b z k p q d e r s gp gr xp yp xr yr kd on a n t kv (w.drewN m) := h.below (below_drewN (Below.refl _ _) m)
theorem SAt.tell (h : SAt w0 w1 Q b z k p q d e r s gp gr xp yp xr yr kd on a n t kv w) : w.cell? ⟨q, 0, none⟩ = some (.bool gr.gone) ∧ w.cell? ⟨q, 2, none⟩ = some (.int .i64 gr.acts) ∧ (∃ a cap, w.cell? ⟨r, 3, none⟩ = some (.slice a xr.ps.length cap)) ∧ w.cell? ⟨r, 4, none⟩ = some (.bool xr.dead) ∧ w.cell? ⟨r, 5, none⟩ = some (.int .i64 xr.life) ∧ w.cell? ⟨r, 1, none⟩ = some (.int .i64 xr.n) := by
  obtain ⟨L, hp⟩ := h.pl; exact hp.rtell
theorem SAt.pgone (h : SAt w0 w1 Q b z k p q d e r s gp gr xp yp xr yr kd on a n t kv w) : Calls Try.prog 36 #[.pointer (some ⟨p, 0, none⟩)] w fun o w' => o = .returned (.bool gp.gone) ∧ w = w' := by
  obtain ⟨L, hp⟩ := h.pl; exact hp.pgone
theorem SAt.pacts (h : SAt w0 w1 Q b z k p q d e r s gp gr xp yp xr yr kd on a n t kv w) : Calls Try.prog 17 #[.pointer (some ⟨p, 0, none⟩)] w fun o w' => o = .returned (.int .i64 gp.acts) ∧ w = w' := by
  obtain ⟨L, hp⟩ := h.pl; exact hp.pacts
theorem SAt.ppending (h : SAt w0 w1 Q b z k p q d e r s gp gr xp yp xr yr kd on a n t kv w) : Calls Try.prog 15 #[.pointer (some ⟨d, 0, none⟩)] w fun o w' => o = .returned (.int .i64 xp.ps.length) ∧ w = w' := by
  obtain ⟨L, hp⟩ := h.pl; exact hp.ppending
theorem SAt.pdead (h : SAt w0 w1 Q b z k p q d e r s gp gr xp yp xr yr kd on a n t kv w) : Calls Try.prog 37 #[.pointer (some ⟨d, 0, none⟩)] w fun o w' => o = .returned (.bool xp.dead) ∧ w = w' := by
  obtain ⟨L, hp⟩ := h.pl; exact hp.pdead
theorem SAt.plife (h : SAt w0 w1 Q b z k p q d e r s gp gr xp yp xr yr kd on a n t kv w) : Calls Try.prog 38 #[.pointer (some ⟨d, 0, none⟩)] w fun o w' => o = .returned (.int .i64 xp.life) ∧ w = w' := by
  obtain ⟨L, hp⟩ := h.pl; exact hp.plife
theorem SAt.psectors (h : SAt w0 w1 Q b z k p q d e r s gp gr xp yp xr yr kd on a n t kv w) : Calls Try.prog 39 #[.pointer (some ⟨d, 0, none⟩)] w fun o w' => o = .returned (.int .i64 xp.n) ∧ w = w' := by
  obtain ⟨L, hp⟩ := h.pl; exact hp.psectors
theorem SAt.quiet (h : SAt w0 w1 Q b z k p q d e r s gp gr xp yp xr yr kd on a n t kv w) :
    (∀ m, Calls Try.prog 36 #[.pointer (some ⟨p, 0, none⟩)] (w.drewN m) fun o w' => o = .returned (.bool gp.gone) ∧ w' = w.drewN m) ∧ (∀ m, Calls Try.prog 17 #[.pointer (some ⟨p, 0, none⟩)] (w.drewN m) fun o w' => o = .returned (.int .i64 gp.acts) ∧ w' = w.drewN m) ∧
    (∀ m, Calls Try.prog 15 #[.pointer (some ⟨d, 0, none⟩)] (w.drewN m) fun o w' => o = .returned (.int .i64 xp.ps.length) ∧ w' = w.drewN m) ∧ (∀ m, Calls Try.prog 37 #[.pointer (some ⟨d, 0, none⟩)] (w.drewN m) fun o w' => o = .returned (.bool xp.dead) ∧ w' = w.drewN m) ∧
    (∀ m, Calls Try.prog 38 #[.pointer (some ⟨d, 0, none⟩)] (w.drewN m) fun o w' => o = .returned (.int .i64 xp.life) ∧ w' = w.drewN m) ∧ (∀ m, Calls Try.prog 39 #[.pointer (some ⟨d, 0, none⟩)] (w.drewN m) fun o w' => o = .returned (.int .i64 xp.n) ∧ w' = w.drewN m) := by
  refine ⟨fun m => ?_, fun m => ?_, fun m => ?_, fun m => ?_, fun m => ?_, fun m => ?_⟩
  · exact (h.drewN m).pgone.mono fun _ _ ⟨h1, h2⟩ => ⟨h1, h2.symm⟩
  · exact (h.drewN m).pacts.mono fun _ _ ⟨h1, h2⟩ => ⟨h1, h2.symm⟩
  · exact (h.drewN m).ppending.mono fun _ _ ⟨h1, h2⟩ => ⟨h1, h2.symm⟩
  · exact (h.drewN m).pdead.mono fun _ _ ⟨h1, h2⟩ => ⟨h1, h2.symm⟩
  · exact (h.drewN m).plife.mono fun _ _ ⟨h1, h2⟩ => ⟨h1, h2.symm⟩
  · exact (h.drewN m).psectors.mono fun _ _ ⟨h1, h2⟩ => ⟨h1, h2.symm⟩
theorem SAt.pread (h : SAt w0 w1 Q b z k p q d e r s gp gr xp yp xr yr kd on a n t kv w) (qt : ByteArray) (hq : qt.data.toList = readC gp xp a) : Calls Try.prog 14 #[.pointer (some ⟨d, 0, none⟩), .int .i64 a] w fun o w' => ∃ v, o = .returned (.tuple #[.string qt, v]) ∧ ErrIs (badC gp xp a) v w' ∧ SAt w0 w1 Q b z k p q d e r s gp gr xp yp xr yr kd on a n t kv w' := by
  obtain ⟨L, hp⟩ := h.pl
  refine (hp.pread a qt hq).mono ?_
  rintro o w' ⟨v, rfl, he, hp'⟩
  exact ⟨v, rfl, he, h.move ⟨L, hp'⟩⟩
theorem SAt.rread (h : SAt w0 w1 Q b z k p q d e r s gp gr xp yp xr yr kd on a n t kv w) (qt : ByteArray) (hq : qt.data.toList = readC gr xr a) : Calls Try.prog 21 #[.pointer (some ⟨r, 0, none⟩), .int .i64 a] w fun o w' => o = .returned (.tuple #[.string qt, .int .i64 (badC gr xr a)]) ∧ w = w' := by
  obtain ⟨L, hp⟩ := h.pl
  have e : sv (readC gr xr a) = .string qt := by rw [← hq, sv]
  have := hp.rread a
  rw [e] at this
  exact this
theorem SAt.pwrite (h : SAt w0 w1 Q b z k p q d e r s gp gr xp yp xr yr kd on a n t kv w) (N : Nat) (hN : N ≤ 1000) (hg : gp.okN N) (hx : xp.okN N) (u : ByteArray) : Calls Try.prog 12 #[.pointer (some ⟨d, 0, none⟩), .int .i64 a, .string u] w fun o w' => ∃ v, o = .returned v ∧ ErrIs (writeC gp xp a u.data.toList) v w' ∧ SAt w0 w1 Q b z k p q d e r s (writeG gp xp a u.data.toList) gr (writeX gp xp a u.data.toList) yp xr yr kd on a n t kv w' := by
  obtain ⟨L, hp⟩ := h.pl
  refine (hp.pwrite (hg.ok hN) (hx.ok hN) a u).mono ?_
  rintro o w' ⟨v, rfl, he, hp'⟩
  exact ⟨v, rfl, he, h.move hp'⟩
theorem SAt.rwrite (h : SAt w0 w1 Q b z k p q d e r s gp gr xp yp xr yr kd on a n t kv w) (N : Nat) (hN : N ≤ 1000) (hg : gr.okN N) (hx : xr.okN N) (u : ByteArray) : Calls Try.prog 23 #[.pointer (some ⟨r, 0, none⟩), .int .i64 a, .string u] w fun o w' => o = .returned (.int .i64 (writeC gr xr a u.data.toList)) ∧ SAt w0 w1 Q b z k p q d e r s gp (writeG gr xr a u.data.toList) xp yp (writeX gr xr a u.data.toList) yr kd on a n t kv w' := by
  obtain ⟨L, hp⟩ := h.pl
  refine (hp.rwrite (hg.ok hN) (hx.ok hN) a u).mono ?_
  rintro o w' ⟨rfl, hp'⟩
  exact ⟨rfl, h.move hp'⟩
theorem SAt.pflush (h : SAt w0 w1 Q b z k p q d e r s gp gr xp yp xr yr kd on a n t kv w) (N : Nat) (hN : N ≤ 1000) (hg : gp.okN N) : Calls Try.prog 25 #[.pointer (some ⟨d, 0, none⟩)] w fun o w' => ∃ v, o = .returned v ∧ ErrIs (flushC gp xp) v w' ∧ SAt w0 w1 Q b z k p q d e r s (flushG gp xp) gr (flushX gp xp) yp xr yr kd on a n t kv w' := by
  obtain ⟨L, hp⟩ := h.pl
  refine (hp.pflush (hg.ok hN)).mono ?_
  rintro o w' ⟨v, rfl, he, hp'⟩
  exact ⟨v, rfl, he, h.move hp'⟩
theorem SAt.rflush (h : SAt w0 w1 Q b z k p q d e r s gp gr xp yp xr yr kd on a n t kv w) (N : Nat) (hN : N ≤ 1000) (hg : gr.okN N) : Calls Try.prog 24 #[.pointer (some ⟨r, 0, none⟩)] w fun o w' => o = .returned (.int .i64 (flushC gr xr)) ∧ SAt w0 w1 Q b z k p q d e r s gp (flushG gr xr) xp yp (flushX gr xr) yr kd on a n t kv w' := by
  obtain ⟨L, hp⟩ := h.pl
  refine (hp.rflush (hg.ok hN)).mono ?_
  rintro o w' ⟨rfl, hp'⟩
  exact ⟨rfl, h.move hp'⟩
theorem SAt.plose (h : SAt w0 w1 Q b z k p q d e r s gp gr xp yp xr yr kd on a n t kv w) (kb ko : Nat) (ks : List Nat) (keep : List Bool) (hy : Yes kv kb ko ks keep w1) (hks : ∀ k ∈ ks, k ∈ Q) : Calls Try.prog 16 #[.pointer (some ⟨d, 0, none⟩), kv, .int .i64 n] w fun o w' => o = .returned (.tuple #[]) ∧ SAt w0 w1 Q b z k p q d e r s gp gr (loseX xp keep n) yp xr yr kd on a n t kv w' := by
  obtain ⟨L, hp⟩ := h.pl
  refine (hp.plose kv kb ko ks keep n hy (fun k hk => List.mem_cons_of_mem _ (hks k hk))).mono ?_
  rintro o w' ⟨rfl, hp'⟩
  exact ⟨rfl, h.move hp'⟩
theorem SAt.rlose (h : SAt w0 w1 Q b z k p q d e r s gp gr xp yp xr yr kd on a n t kv w) (kb ko : Nat) (ks : List Nat) (keep : List Bool) (hy : Yes kv kb ko ks keep w1) (hks : ∀ k ∈ ks, k ∈ Q) : Calls Try.prog 26 #[.pointer (some ⟨r, 0, none⟩), kv, .int .i64 n] w fun o w' => o = .returned (.tuple #[]) ∧ SAt w0 w1 Q b z k p q d e r s gp gr xp yp (loseX xr keep n) yr kd on a n t kv w' := by
  obtain ⟨L, hp⟩ := h.pl
  refine (hp.rlose kv kb ko ks keep n hy (fun k hk => List.mem_cons_of_mem _ (hks k hk))).mono ?_
  rintro o w' ⟨rfl, hp'⟩
  exact ⟨rfl, h.move hp'⟩
theorem SAt.pkill (h : SAt w0 w1 Q b z k p q d e r s gp gr xp yp xr yr kd on a n t kv w) (N : Nat) (hN : N ≤ 1000) (hx : xp.okN N) : Calls Try.prog 28 #[.pointer (some ⟨d, 0, none⟩)] w fun o w' => o = .returned (.tuple #[]) ∧ SAt w0 w1 Q b z k p q d e r s gp gr (killX xp) yp xr yr kd on a n t kv w' := by
  obtain ⟨L, hp⟩ := h.pl
  refine (hp.pkill (hx.ok hN)).mono ?_
  rintro o w' ⟨rfl, hp'⟩
  exact ⟨rfl, h.move hp'⟩
theorem SAt.rkill (h : SAt w0 w1 Q b z k p q d e r s gp gr xp yp xr yr kd on a n t kv w) (N : Nat) (hN : N ≤ 1000) (hx : xr.okN N) : Calls Try.prog 27 #[.pointer (some ⟨r, 0, none⟩)] w fun o w' => o = .returned (.tuple #[]) ∧ SAt w0 w1 Q b z k p q d e r s gp gr xp yp (killX xr) yr kd on a n t kv w' := by
  obtain ⟨L, hp⟩ := h.pl
  refine (hp.rkill (hx.ok hN)).mono ?_
  rintro o w' ⟨rfl, hp'⟩
  exact ⟨rfl, h.move hp'⟩
theorem SAt.preplace (h : SAt w0 w1 Q b z k p q d e r s gp gr xp yp xr yr kd on a n t kv w) (N : Nat) (hN : N ≤ 1000) (hx : xp.okN N) : Calls Try.prog 30 #[.pointer (some ⟨d, 0, none⟩)] w fun o w' => o = .returned (.tuple #[]) ∧ SAt w0 w1 Q b z k p q d e r s gp gr (replaceX xp) yp xr yr kd on a n t kv w' := by
  obtain ⟨L, hp⟩ := h.pl
  refine (hp.preplace (hx.ok hN)).mono ?_
  rintro o w' ⟨rfl, hp'⟩
  exact ⟨rfl, h.move hp'⟩
theorem SAt.rreplace (h : SAt w0 w1 Q b z k p q d e r s gp gr xp yp xr yr kd on a n t kv w) (N : Nat) (hN : N ≤ 1000) (hx : xr.okN N) : Calls Try.prog 29 #[.pointer (some ⟨r, 0, none⟩)] w fun o w' => o = .returned (.tuple #[]) ∧ SAt w0 w1 Q b z k p q d e r s gp gr xp yp (replaceX xr) yr kd on a n t kv w' := by
  obtain ⟨L, hp⟩ := h.pl
  refine (hp.rreplace (hx.ok hN)).mono ?_
  rintro o w' ⟨rfl, hp'⟩
  exact ⟨rfl, h.move hp'⟩
theorem SAt.prot (h : SAt w0 w1 Q b z k p q d e r s gp gr xp yp xr yr kd on a n t kv w) : Calls Try.prog 32 #[.pointer (some ⟨d, 0, none⟩), .int .i64 a, .int .i64 n] w fun o w' => ∃ v, o = .returned v ∧ ErrIs (rotC xp a n) v w' ∧ SAt w0 w1 Q b z k p q d e r s gp gr (rotX xp a n) yp xr yr kd on a n t kv w' := by
  obtain ⟨L, hp⟩ := h.pl
  refine (hp.prot a n).mono ?_
  rintro o w' ⟨v, rfl, he, hp'⟩
  exact ⟨v, rfl, he, h.move hp'⟩
theorem SAt.rrot (h : SAt w0 w1 Q b z k p q d e r s gp gr xp yp xr yr kd on a n t kv w) : Calls Try.prog 31 #[.pointer (some ⟨r, 0, none⟩), .int .i64 a, .int .i64 n] w fun o w' => o = .returned (.int .i64 (rotC xr a n)) ∧ SAt w0 w1 Q b z k p q d e r s gp gr xp yp (rotX xr a n) yr kd on a n t kv w' := by
  obtain ⟨L, hp⟩ := h.pl
  refine (hp.rrot a n).mono ?_
  rintro o w' ⟨rfl, hp'⟩
  exact ⟨rfl, h.move hp'⟩
theorem SAt.pimage (h : SAt w0 w1 Q b z k p q d e r s gp gr xp yp xr yr kd on a n t kv w) (qt : ByteArray) (hq : qt.data.toList = imageC xp) : Calls Try.prog 11 #[.pointer (some ⟨d, 0, none⟩)] w fun o w' => o = .returned (.string qt) ∧ SAt w0 w1 Q b z k p q d e r s gp gr xp yp xr yr kd on a n t kv w' := by
  obtain ⟨L, hp⟩ := h.pl
  refine (hp.pimage qt hq).mono ?_
  rintro o w' ⟨rfl, hp'⟩
  exact ⟨rfl, h.move ⟨L, hp'⟩⟩
theorem SAt.rimage (h : SAt w0 w1 Q b z k p q d e r s gp gr xp yp xr yr kd on a n t kv w) (qt : ByteArray) (hq : qt.data.toList = imageC xr) : Calls Try.prog 10 #[.pointer (some ⟨r, 0, none⟩)] w fun o w' => o = .returned (.string qt) ∧ SAt w0 w1 Q b z k p q d e r s gp gr xp yp xr yr kd on a n t kv w' := by
  obtain ⟨L, hp⟩ := h.pl
  have e : sv (imageC xr) = .string qt := by rw [← hq, sv]
  have := hp.rimage
  rw [e] at this
  refine this.mono ?_
  rintro o w' ⟨rfl, hp'⟩
  exact ⟨rfl, h.move ⟨L, hp'⟩⟩
theorem SAt.pfuse (h : SAt w0 w1 Q b z k p q d e r s gp gr xp yp xr yr kd on a n t kv w) : Calls Try.prog 33 #[.pointer (some ⟨p, 0, none⟩), .int .i64 n] w fun o w' => o = .returned (.tuple #[]) ∧ SAt w0 w1 Q b z k p q d e r s (fuseG gp n) gr xp yp xr yr kd on a n t kv w' := by
  obtain ⟨L, hp⟩ := h.pl
  refine (hp.pfuse n).mono ?_
  rintro o w' ⟨rfl, hp'⟩
  exact ⟨rfl, h.move hp'⟩
theorem SAt.pcut (h : SAt w0 w1 Q b z k p q d e r s gp gr xp yp xr yr kd on a n t kv w) : Calls Try.prog 34 #[.pointer (some ⟨p, 0, none⟩)] w fun o w' => o = .returned (.tuple #[]) ∧ SAt w0 w1 Q b z k p q d e r s (cutG gp) gr xp yp xr yr kd on a n t kv w' := by
  obtain ⟨L, hp⟩ := h.pl
  refine (hp.pcut).mono ?_
  rintro o w' ⟨rfl, hp'⟩
  exact ⟨rfl, h.move hp'⟩
theorem SAt.pon (h : SAt w0 w1 Q b z k p q d e r s gp gr xp yp xr yr kd on a n t kv w) : Calls Try.prog 35 #[.pointer (some ⟨p, 0, none⟩)] w fun o w' => o = .returned (.tuple #[]) ∧ SAt w0 w1 Q b z k p q d e r s (onG gp) gr xp yp xr yr kd on a n t kv w' := by
  obtain ⟨L, hp⟩ := h.pl
  refine (hp.pon).mono ?_
  rintro o w' ⟨rfl, hp'⟩
  exact ⟨rfl, h.move hp'⟩
theorem SAt.rset (h : SAt w0 w1 Q b z k p q d e r s gp gr xp yp xr yr kd on a n t kv w) (j : Nat) (v : Value) {gr' : Pw} (hv : [Value.bool gr.gone, .int .i64 gr.left, .int .i64 gr.acts].set j v = [Value.bool gr'.gone, .int .i64 gr'.left, .int .i64 gr'.acts]) : SAt w0 w1 Q b z k p q d e r s gp gr' xp yp xr yr kd on a n t kv (w.setCell ⟨q, j, none⟩ v) := by
  obtain ⟨L, hp⟩ := h.pl; exact h.move (hp.rset j v hv)
theorem SAt.rfree (h : SAt w0 w1 Q b z k p q d e r s gp gr xp yp xr yr kd on a n t kv w) : ∀ j, w.frozen? ⟨q, j, none⟩ = false := by
  obtain ⟨L, hp⟩ := h.pl; exact hp.rfree
theorem SAt.rcells (h : SAt w0 w1 Q b z k p q d e r s gp gr xp yp xr yr kd on a n t kv w) : w.cell? ⟨q, 0, none⟩ = some (.bool gr.gone) ∧ w.cell? ⟨q, 1, none⟩ = some (.int .i64 gr.left) := by
  obtain ⟨L, hp⟩ := h.pl
  have hp : RPow q gr.gone gr.left gr.acts w := hp.rp
  exact ⟨hp.c0, hp.c1⟩
end
end Go.Proofs.Ytkpnllaegkdkkaa
