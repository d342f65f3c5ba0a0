/- That the program's disks answer and leave the same (PRSide's plain calls). -/
import Derived.Test.YtkpnllaegkdkkaaPRSide
import Derived.Test.YtkpnllaegkdkkaaPAgain
namespace Go.Proofs.Ytkpnllaegkdkkaa
open Go.RowKit

/-- An error of a number, alone; none: 0. -/
def ErrIs (c : Int) (v : Value) (w : World) : Prop := (c = 0 ∧ v = .nilIface) ∨ (c ≠ 0 ∧ ∃ g, v = .iface 87 (.pointer (some ⟨g, 0, none⟩)) ∧ FaultAt g c w)
def PP (p : Nat) (g : Pw) (w : World) : Prop := PowerAt p g.gone g.left g.acts w
/-- A disk of the program, dead or not. -/
def PD (d p : Nat) (F : List Nat) (x : Ds) (w : World) : Prop := (x.dead = true ∧ x.ps = [] ∧ Gone d p F x.n x.life w) ∨ (x.dead = false ∧ Live d p F x.n x.S x.ps x.life w)
section
variable {d p : Nat} {F : List Nat} {g : Pw} {x : Ds} {w w' : World}
theorem PD.keep (h : PD d p F x w) (hz : w.heap.size ≤ w'.heap.size) (hk : ∀ y ∈ F, w'.heap[y]? = w.heap[y]?) : PD d p F x w' := by
  rcases h with ⟨h1, h2, h⟩ | ⟨h1, h⟩
  · exact Or.inl ⟨h1, h2, h.keep hz hk⟩
  · exact Or.inr ⟨h1, h.keep hz hk⟩
theorem PD.in_F (h : PD d p F x w) : d ∈ F ∧ p ∉ F ∧ ∀ y ∈ F, y < w.heap.size := by
  rcases h with ⟨_, _, h⟩ | ⟨_, bl, bn, pv, h1, h2, h3, h4, h5, h6, h7⟩
  · exact h.2
  · exact ⟨h2, h6, h7⟩
theorem PD.kept {ws : List Nat} (h : PD d p F x w) (hk : Kept w.heap.size ws w w') (hn : ∀ y ∈ F, y ∉ ws) : PD d p F x w' := h.keep hk.size (fun y hy => hk.block y (h.in_F.2.2 y hy) (hn y hy))
theorem PD.range (h : PD d p F x w) : 1 ≤ x.n ∧ x.n ≤ 8192 := by
  rcases h with ⟨_, _, h⟩ | ⟨_, bl, bn, pv, h1, _⟩
  · exact ⟨h.1.n1, h.1.n2⟩
  · exact ⟨h1.n1, h1.n2⟩
theorem PD.c0 (h : PD d p F x w) : w.cell? ⟨d, 0, none⟩ = some (.pointer (some ⟨p, 0, none⟩)) := by
  rcases h with ⟨_, _, h⟩ | ⟨_, bl, bn, pv, h1, _⟩
  · exact h.1.c0
  · exact h1.c0
theorem PD.obj (h : PD d p F x w) : ∃ x1 x2 x3, w.heap[d]? = some (.cells (diskCells p x.n x1 x2 x3 x.life).toArray 68 (0, 0)) := by
  rcases h with ⟨_, _, h⟩ | ⟨_, bl, bn, pv, h1, _⟩
  · exact ⟨_, _, _, h.1.obj⟩
  · exact ⟨_, _, _, h1.obj⟩
/-- It isn't ready: the number. -/
def unready (g : Pw) (_x : Ds) : Int := if g.gone then 10 else 11
theorem pready_no (h : PD d p F x w) (hp : PP p g w) (hu : g.gone = true ∨ x.dead = true) : Calls Try.prog 41 #[.pointer (some ⟨d, 0, none⟩)] w (Refused (unready g x) id w) := by
  unfold PP at hp
  cases hg : g.gone with
  | true =>
    rw [hg] at hp
    rw [unready, if_pos hg]
    exact ready_gone0 h.c0 hp
  | false =>
    rw [hg] at hp
    rw [unready, if_neg (by simp [hg])]
    rcases hu with hu | hu
    · rw [hg] at hu; cases hu
    · rcases h with ⟨_, _, h⟩ | ⟨h1, _⟩
      · exact ready_dead h.1 hp
      · rw [h1] at hu; cases hu
theorem unready_bad (hu : g.gone = true ∨ x.dead = true) (a : Int) : badC g x a = unready g x ∧ unready g x ≠ 0 := by
  unfold badC unready
  cases hg : g.gone
  · rcases hu with hu | hu
    · rw [hg] at hu; cases hu
    · simp [hu]
  · simp
theorem refused_same {c : Int} (hc : c ≠ 0) (h : PD d p F x w) (hp : PP p g w) {e : Ending} (hr : Refused c id w e w') : ∃ v, e = .returned v ∧ ErrIs c v w' ∧ PD d p F x w' ∧ PP p g w' ∧ Below w.heap.size w w' := by
  obtain ⟨gb, _, rfl, hf, hb⟩ := hr
  exact ⟨_, rfl, Or.inr ⟨hc, gb, rfl, hf⟩, h.kept (ws := []) (Kept.of_below hb) (by simp), hp.keep (hb.block p hp.lt), hb⟩
theorem pread_any (h : PD d p F x w) (hp : PP p g w) (a : Int) (q : ByteArray) (hq : q.data.toList = readC g x a) : Calls Try.prog 14 #[.pointer (some ⟨d, 0, none⟩), .int .i64 a] w fun e w' => ∃ v, e = .returned (.tuple #[.string q, v]) ∧ ErrIs (badC g x a) v w' ∧ Below w.heap.size w w' := by
  by_cases hu : g.gone = true ∨ x.dead = true
  · obtain ⟨h1, h2⟩ := unready_bad hu a
    have hq0 : q = ⟨#[]⟩ := by
      rw [readC, if_neg (by rw [h1]; exact h2)] at hq
      have : q.data = #[] := by rw [← Array.toList_inj]; exact hq
      cases q; simp at this; rw [this]
    refine (Read_unready _ (pready_no h hp hu) a).mono ?_
    rintro e w' ⟨gb, _, rfl, hf, hb⟩
    exact ⟨_, by rw [hq0], by rw [h1]; exact Or.inr ⟨h2, gb, rfl, hf⟩, hb⟩
  · have hg : g.gone = false := by cases e : g.gone with | true => exact absurd (Or.inl e) hu | false => rfl
    have hd : x.dead = false := by cases e : x.dead with | true => exact absurd (Or.inr e) hu | false => rfl
    have hL : Live d p F x.n x.S x.ps x.life w := by
      rcases h with ⟨h1, _⟩ | ⟨_, h⟩
      · rw [hd] at h1; cases h1
      · exact h
    unfold PP at hp
    rw [hg] at hp
    by_cases ha : a < 0 ∨ (x.n : Int) ≤ a
    · have hC : badC g x a = 1 := by simp only [badC, hg, hd, Bool.false_eq_true, if_false]; rw [if_pos ha]
      have hq0 : q = ⟨#[]⟩ := by
        rw [readC, if_neg (by rw [hC]; omega)] at hq
        have : q.data = #[] := by rw [← Array.toList_inj]; exact hq
        cases q; simp at this; rw [this]
      refine (Read_bad d p F x.n x.S x.ps x.life g.left g.acts a ha w hL hp).mono ?_
      rintro e w' ⟨gb, _, rfl, hf, hb⟩
      exact ⟨_, by rw [hq0], by rw [hC]; exact Or.inr ⟨by omega, gb, rfl, hf⟩, hb⟩
    · have hC : badC g x a = 0 := by simp only [badC, hg, hd, Bool.false_eq_true, if_false]; rw [if_neg ha]
      obtain ⟨k, rfl⟩ : ∃ k : Nat, a = k := ⟨a.toNat, by omega⟩
      rw [readC, if_pos hC] at hq
      refine (Read_ok d p F x.n x.S x.ps x.life g.left g.acts k (by omega) q hq w hL hp).mono ?_
      rintro e w' ⟨rfl, rfl⟩
      exact ⟨_, rfl, by rw [hC]; exact Or.inl ⟨rfl, rfl⟩, Below.refl _ _⟩
theorem pwrite_any (h : PD d p F x w) (hp : PP p g w) (hg : g.ok) (hx : x.ok) (a : Int) (s : ByteArray) :
    Calls Try.prog 12 #[.pointer (some ⟨d, 0, none⟩), .int .i64 a, .string s] w fun e w' => ∃ v, e = .returned v ∧ ErrIs (writeC g x a s.data.toList) v w' ∧
      ∃ F', PD d p F' (writeX g x a s.data.toList) w' ∧ PP p (writeG g x a s.data.toList) w' ∧ (∀ y ∈ F', y ∈ F ∨ w.heap.size ≤ y) ∧ Kept w.heap.size (p :: F) w w' := by
  by_cases hu : g.gone = true ∨ x.dead = true
  · obtain ⟨h1, h2⟩ := unready_bad hu a
    have hC : writeC g x a s.data.toList = unready g x := by rw [writeC, if_pos (by rw [h1]; exact h2), h1]
    refine (Write_unready _ (pready_no h hp hu) a s).mono ?_
    intro e w' hr
    obtain ⟨v, rfl, he, hd, hp', hb⟩ := refused_same h2 h hp hr
    refine ⟨v, rfl, by rw [hC]; exact he, F, ?_, ?_, fun y hy => Or.inl hy, Kept.of_below hb⟩
    · rw [writeX, hC, if_neg h2]; exact hd
    · rw [writeG, if_pos (Or.inl (by rw [h1]; exact h2))]; exact hp'
  · have hgn : g.gone = false := by cases e : g.gone with | true => exact absurd (Or.inl e) hu | false => rfl
    have hd : x.dead = false := by cases e : x.dead with | true => exact absurd (Or.inr e) hu | false => rfl
    have hL : Live d p F x.n x.S x.ps x.life w := by
      rcases h with ⟨h1, _⟩ | ⟨_, h⟩
      · rw [hd] at h1; cases h1
      · exact h
    have hp0 := hp
    unfold PP at hp
    rw [hgn] at hp
    by_cases hbd : (a < 0 ∨ (x.n : Int) ≤ a) ∨ s.size ≠ 64
    · have hC : writeC g x a s.data.toList = 1 ∧ (badC g x a ≠ 0 ∨ s.data.toList.length ≠ 64) := by
        by_cases ha : a < 0 ∨ (x.n : Int) ≤ a
        · have hB : badC g x a = 1 := by simp only [badC, hgn, hd, Bool.false_eq_true, if_false]; rw [if_pos ha]
          exact ⟨by rw [writeC, if_pos (by rw [hB]; omega), hB], Or.inl (by rw [hB]; omega)⟩
        · have hB : badC g x a = 0 := by simp only [badC, hgn, hd, Bool.false_eq_true, if_false]; rw [if_neg ha]
          have hs : s.data.toList.length ≠ 64 := by rw [size_toList]; rcases hbd with h | h; exact absurd h ha; exact h
          exact ⟨by rw [writeC, if_neg (by simp [hB]), if_pos hs], Or.inr hs⟩
      refine (Write_bad d p F x.n x.S x.ps x.life g.left g.acts a s hbd w hL hp).mono ?_
      intro e w' hr
      obtain ⟨v, rfl, he, hd', hp', hb⟩ := refused_same (by omega) h hp0 hr
      refine ⟨v, rfl, by rw [hC.1]; exact he, F, ?_, ?_, fun y hy => Or.inl hy, Kept.of_below hb⟩
      · rw [writeX, hC.1, if_neg (by omega)]; exact hd'
      · rw [writeG, if_pos hC.2]; exact hp'
    · have ha : ¬ (a < 0 ∨ (x.n : Int) ≤ a) := fun h => hbd (Or.inl h)
      have hs : s.size = 64 := by
        by_cases e : s.size = 64
        · exact e
        · exact absurd (Or.inr e) hbd
      have hs' : s.data.toList.length = 64 := by rw [size_toList]; exact hs
      have hB : badC g x a = 0 := by simp only [badC, hgn, hd, Bool.false_eq_true, if_false]; rw [if_neg ha]
      obtain ⟨k, rfl⟩ : ∃ k : Nat, a = k := ⟨a.toNat, by omega⟩
      have hC : writeC g x k s.data.toList = if g.left = 0 then 10 else 0 := by rw [writeC, if_neg (by simp [hB]), if_neg (by simp [hs'])]
      have hG : writeG g x k s.data.toList = g.act := by rw [writeG, if_neg (by simp [hB, hs'])]
      by_cases hl : g.left = 0
      · rw [hl] at hp
        refine (Write_cut d p F x.n x.S x.ps x.life g.acts k s (by omega) hs w hL hp).mono ?_
        rintro e w' ⟨gb, _, rfl, hf, hp', hk⟩
        refine ⟨_, rfl, by rw [hC, if_pos hl]; exact Or.inr ⟨by omega, gb, rfl, hf⟩, F, ?_, ?_, fun y hy => Or.inl hy, hk.mono (Nat.le_refl _) (fun y _ hy => by simp at hy; simp [hy])⟩
        · rw [writeX, hC, if_pos hl, if_neg (by omega)]
          exact h.kept hk (fun y hy hm => h.in_F.2.1 (by simp at hm; exact hm ▸ hy))
        · rw [hG, Pw.act, if_pos hl, PP, hl]; exact hp'
      · refine (Write_ok d p F x.n x.S x.ps x.life g.left g.acts k s (by omega) hs (by have := hx.1; omega) hl hg.1 hg.2.1 hg.2.2.1 (by have := hg.2.2.2; omega) w hL hp).mono ?_
        rintro e w' ⟨rfl, F', hL', hp', hF', hk⟩
        refine ⟨_, rfl, by rw [hC, if_neg hl]; exact Or.inl ⟨rfl, rfl⟩, F', ?_, ?_, hF', hk⟩
        · rw [writeX, hC, if_neg hl, if_pos rfl]
          exact Or.inr ⟨hd, hL'⟩
        · rw [hG, Pw.act, if_neg hl, PP, hgn]; exact hp'
theorem pflush_any (h : PD d p F x w) (hp : PP p g w) (hg : g.ok) :
    Calls Try.prog 25 #[.pointer (some ⟨d, 0, none⟩)] w fun e w' => ∃ v, e = .returned v ∧ ErrIs (flushC g x) v w' ∧ PD d p F (flushX g x) w' ∧ PP p (flushG g x) w' ∧ Kept w.heap.size (p :: F) w w' := by
  by_cases hu : g.gone = true ∨ x.dead = true
  · obtain ⟨h1, h2⟩ := unready_bad hu 0
    have hC : flushC g x = unready g x := by rw [flushC, if_pos (by rw [h1]; exact h2), h1]
    refine (Flush_unready _ (pready_no h hp hu)).mono ?_
    intro e w' hr
    obtain ⟨v, rfl, he, hd, hp', hb⟩ := refused_same h2 h hp hr
    refine ⟨v, rfl, by rw [hC]; exact he, ?_, ?_, Kept.of_below hb⟩
    · rw [flushX, hC, if_neg h2]; exact hd
    · rw [flushG, if_pos (by rw [h1]; exact h2)]; exact hp'
  · have hgn : g.gone = false := by cases e : g.gone with | true => exact absurd (Or.inl e) hu | false => rfl
    have hd : x.dead = false := by cases e : x.dead with | true => exact absurd (Or.inr e) hu | false => rfl
    have hL : Live d p F x.n x.S x.ps x.life w := by
      rcases h with ⟨h1, _⟩ | ⟨_, h⟩
      · rw [hd] at h1; cases h1
      · exact h
    have hB : badC g x 0 = 0 := by simp only [badC, hgn, hd, Bool.false_eq_true, if_false]; rw [if_neg (by have := h.range; omega)]
    have hC : flushC g x = if g.left = 0 then 10 else 0 := by rw [flushC, if_neg (by simp [hB])]
    have hG : flushG g x = g.act := by rw [flushG, if_neg (by simp [hB])]
    unfold PP at hp
    rw [hgn] at hp
    by_cases hl : g.left = 0
    · rw [hl] at hp
      refine (Flush_cut d p F x.n x.S x.ps x.life g.acts w hL hp).mono ?_
      rintro e w' ⟨gb, _, rfl, hf, hp', hk⟩
      refine ⟨_, rfl, by rw [hC, if_pos hl]; exact Or.inr ⟨by omega, gb, rfl, hf⟩, ?_, ?_, hk.mono (Nat.le_refl _) (fun y _ hy => by simp at hy; simp [hy])⟩
      · rw [flushX, hC, if_pos hl, if_neg (by omega)]
        exact h.kept hk (fun y hy hm => h.in_F.2.1 (by simp at hm; exact hm ▸ hy))
      · rw [hG, Pw.act, if_pos hl, PP, hl]; exact hp'
    · refine (Flush_ok d p F x.n x.S x.ps x.life g.left g.acts hl hg.1 hg.2.1 hg.2.2.1 (by have := hg.2.2.2; omega) w hL hp).mono ?_
      rintro e w' ⟨rfl, hL', hp', hk⟩
      refine ⟨_, rfl, by rw [hC, if_neg hl]; exact Or.inl ⟨rfl, rfl⟩, ?_, ?_, hk⟩
      · rw [flushX, hC, if_neg hl, if_pos rfl]
        exact Or.inr ⟨hd, hL'⟩
      · rw [hG, Pw.act, if_neg hl, PP, hgn]; exact hp'
theorem settle_nil (S : List (List UInt8)) (kept : Nat → Nat) : Dk.settleTo S [] kept ([] : List Dk.Wr).length = S := Dk.settleTo_zero _ _ _
theorem plose_any (h : PD d p F x w) (kv : Value) (kb ko : Nat) (ks : List Nat) (keep : List Bool) (t : Int) (hy : Yes kv kb ko ks keep w) (hks : ∀ k ∈ ks, k < w.heap.size ∧ k ∉ F) :
    Calls Try.prog 16 #[.pointer (some ⟨d, 0, none⟩), kv, .int .i64 t] w fun e w' => e = .returned (.tuple #[]) ∧ PD d p F (loseX x keep t) w' ∧ Kept w.heap.size F w w' := by
  rcases h with ⟨h1, h2, h3, h4, h5, h6⟩ | ⟨h1, h⟩
  · obtain ⟨a, cap, rfl, _⟩ := hy.form
    refine (Lose_dead d p x.n x.life a keep.length cap t w h3).mono ?_
    rintro e w' ⟨rfl, hd, hk⟩
    have hz := hk.size
    exact ⟨rfl, Or.inl ⟨h1, rfl, hd, h4, h5, fun y hy => by have := h6 y hy; omega⟩, hk.mono (Nat.le_refl _) (fun y _ hm => by simp at hm; exact hm ▸ h4)⟩
  · refine (Lose_any d p F x.n x.S x.ps x.life kv kb ko ks keep t w h hy hks).mono ?_
    rintro e w' ⟨rfl, hL, hk⟩
    exact ⟨rfl, Or.inr ⟨h1, hL⟩, hk⟩
theorem pkill_any (h : PD d p F x w) (hx : x.ok) : Calls Try.prog 28 #[.pointer (some ⟨d, 0, none⟩)] w fun e w' => e = .returned (.tuple #[]) ∧ PD d p F (killX x) w' ∧ Kept w.heap.size F w w' := by
  obtain ⟨x1, x2, x3, ho⟩ := h.obj
  obtain ⟨hd, hpF, hF⟩ := h.in_F
  have hr := h.range
  refine (Kill_obj d p x.n x1 x2 x3 x.life hx.2.1 (by have := hx.2.2; omega) w ho).mono ?_
  rintro e w' ⟨rfl, ho', hk⟩
  have hz := hk.size
  exact ⟨rfl, Or.inl ⟨rfl, rfl, ⟨ho', hr.1, hr.2⟩, hd, hpF, fun y hy => by have := hF y hy; omega⟩, hk.mono (Nat.le_refl _) (fun y _ hm => by simp at hm; exact hm ▸ hd)⟩
theorem preplace_any (h : PD d p F x w) (hp : PP p g w) (hx : x.ok) : Calls Try.prog 30 #[.pointer (some ⟨d, 0, none⟩)] w fun e w' => e = .returned (.tuple #[]) ∧ ∃ F', PD d p F' (replaceX x) w' ∧ (∀ y ∈ F', y ∈ F ∨ w.heap.size ≤ y) ∧ Kept w.heap.size F w w' := by
  obtain ⟨x1, x2, x3, ho⟩ := h.obj
  obtain ⟨hd, hpF, hF⟩ := h.in_F
  have hr := h.range
  refine (Replace_obj d p x.n x1 x2 x3 x.life hx.2.1 (by have := hx.2.2; omega) hr.1 hr.2 w ho hp.lt (fun e => hpF (e ▸ hd))).mono ?_
  rintro e w' ⟨rfl, F', hL, hF', hk⟩
  refine ⟨rfl, F', Or.inr ⟨rfl, hL⟩, fun y hy => ?_, hk.mono (Nat.le_refl _) (fun y _ hm => by simp at hm; exact hm ▸ hd)⟩
  rcases hF' y hy with rfl | h
  · exact Or.inl hd
  · exact Or.inr h
theorem prot_any (h : PD d p F x w) (hp : PP p g w) (a b : Int) : Calls Try.prog 32 #[.pointer (some ⟨d, 0, none⟩), .int .i64 a, .int .i64 b] w fun e w' => ∃ v, e = .returned v ∧ ErrIs (rotC x a b) v w' ∧ PD d p F (rotX x a b) w' ∧ Kept w.heap.size F w w' := by
  have h0 := h
  rcases h with ⟨h1, h2, h3, h4, h5, h6⟩ | ⟨h1, h⟩
  · have hC : rotC x a b = 11 := by rw [rotC, if_pos h1]
    refine (Rot_dead h3 a b).mono ?_
    intro e w' hr
    obtain ⟨v, rfl, he, hd', _, hb⟩ := refused_same (by omega) h0 hp hr
    exact ⟨v, rfl, by rw [hC]; exact he, by rw [rotX, hC, if_neg (by omega)]; exact hd', Kept.of_below hb⟩
  · by_cases hab : a < 0 ∨ (x.n : Int) ≤ a ∨ b < 0 ∨ 512 ≤ b
    · have hC : rotC x a b = 1 := by rw [rotC, if_neg (by simp [h1]), if_pos hab]
      refine (Rot_bad d p F x.n x.S x.ps x.life a b (by omega) w h).mono ?_
      intro e w' hr
      obtain ⟨v, rfl, he, hd', _, hb⟩ := refused_same (by omega) h0 hp hr
      exact ⟨v, rfl, by rw [hC]; exact he, by rw [rotX, hC, if_neg (by omega)]; exact hd', Kept.of_below hb⟩
    · obtain ⟨k, rfl⟩ : ∃ k : Nat, a = k := ⟨a.toNat, by omega⟩
      obtain ⟨m, rfl⟩ : ∃ m : Nat, b = m := ⟨b.toNat, by omega⟩
      have hC : rotC x k m = 0 := by rw [rotC, if_neg (by simp [h1]), if_neg hab]
      refine (Rot_ok d p F x.n x.S x.ps x.life k m (by omega) (by omega) w h).mono ?_
      rintro e w' ⟨rfl, hL, hk⟩
      exact ⟨_, rfl, by rw [hC]; exact Or.inl ⟨rfl, rfl⟩, by rw [rotX, hC, if_pos rfl]; exact Or.inr ⟨h1, hL⟩, hk⟩
theorem pimage_any (h : PD d p F x w) (q : ByteArray) (hq : q.data.toList = imageC x) : Calls Try.prog 11 #[.pointer (some ⟨d, 0, none⟩)] w fun e w' => e = .returned (.string q) ∧ Below w.heap.size w w' := by
  rcases h with ⟨h1, h2, h3, h4, h5, h6⟩ | ⟨h1, h⟩
  · have hq0 : q = ⟨#[]⟩ := by
      rw [imageC, if_pos h1] at hq
      have : q.data = #[] := by rw [← Array.toList_inj]; exact hq
      cases q; simp at this; rw [this]
    rw [hq0]
    exact Image_dead d p x.n x.life w h3
  · exact Image_ok d p F x.n x.S x.ps x.life q (by rw [hq, imageC, if_neg (by simp [h1])]) w h
theorem ppending_any (h : PD d p F x w) : Calls Try.prog 15 #[.pointer (some ⟨d, 0, none⟩)] w fun e w' => e = .returned (.int .i64 x.ps.length) ∧ w = w' := by
  rcases h with ⟨h1, h2, h3, _⟩ | ⟨h1, bl, bn, pv, h, _⟩
  · rw [h2]; exact Pending_dead h3
  · exact Pending_any d p bl bn pv x.n x.S x.ps x.life w h
theorem pdead_any (h : PD d p F x w) : Calls Try.prog 37 #[.pointer (some ⟨d, 0, none⟩)] w fun e w' => e = .returned (.bool x.dead) ∧ w = w' := by
  rcases h with ⟨h1, h2, h3, _⟩ | ⟨h1, bl, bn, pv, h, _⟩
  · rw [h1]; exact Dead_yes h3.c1
  · rw [h1]; exact Dead_no d bl x.n (by have := h.n1; omega) h.n2 w h.c1
theorem plife_any (h : PD d p F x w) : Calls Try.prog 38 #[.pointer (some ⟨d, 0, none⟩)] w fun e w' => e = .returned (.int .i64 x.life) ∧ w = w' := by
  rcases h with ⟨h1, h2, h3, _⟩ | ⟨h1, h⟩
  · exact Life_dead h3
  · exact Life_any d p F x.n x.S x.ps x.life w h
theorem psectors_any (h : PD d p F x w) : Calls Try.prog 39 #[.pointer (some ⟨d, 0, none⟩)] w fun e w' => e = .returned (.int .i64 x.n) ∧ w = w' := by
  rcases h with ⟨h1, h2, h3, _⟩ | ⟨h1, h⟩
  · exact Sectors_dead h3
  · exact Sectors_any d p F x.n x.S x.ps x.life w h
end
end Go.Proofs.Ytkpnllaegkdkkaa
