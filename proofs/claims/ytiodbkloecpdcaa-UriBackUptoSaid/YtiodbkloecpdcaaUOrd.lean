/- The order of pairs. -/
import Derived.Test.YtiodbkloecpdcaaUSort
namespace Go.Proofs.Ytiodbkloecpdcaa
open Go.RowKit Go.Shelf Go.Sort

theorem cb_cons (a b : UInt8) (x y : List UInt8) : Lib.compareBytes (a :: x) (b :: y) = if a.toNat < b.toNat then -1 else if b.toNat < a.toNat then 1 else Lib.compareBytes x y := by
  rw [Lib.compareBytes]
  simp only [UInt8.lt_iff_toNat_lt]
theorem cb_refl (a : List UInt8) : Lib.compareBytes a a = 0 := by
  induction a with
  | nil => rfl
  | cons c r ih => rw [cb_cons, if_neg (by omega), if_neg (by omega), ih]
theorem cb_zero (a b : List UInt8) (h : Lib.compareBytes a b = 0) : a = b := by
  induction a generalizing b with
  | nil => cases b with
    | nil => rfl
    | cons _ _ => simp [Lib.compareBytes] at h
  | cons c r ih =>
    cases b with
    | nil => simp [Lib.compareBytes] at h
    | cons d s =>
      rw [cb_cons] at h
      split at h
      · omega
      · split at h
        · omega
        · rw [ih s h, UInt8.toNat_inj.1 (show c.toNat = d.toNat by omega)]
theorem cb_neg (a b : List UInt8) : Lib.compareBytes b a = - Lib.compareBytes a b := by
  induction a generalizing b with
  | nil => cases b <;> simp [Lib.compareBytes]
  | cons c r ih =>
    cases b with
    | nil => simp [Lib.compareBytes]
    | cons d s =>
      rw [cb_cons, cb_cons]
      by_cases h1 : c.toNat < d.toNat
      · rw [if_neg (by omega), if_pos h1, if_pos h1]; rfl
      · by_cases h2 : d.toNat < c.toNat
        · rw [if_pos h2, if_neg h1, if_pos h2]
        · rw [if_neg h2, if_neg h1, if_neg h1, if_neg h2, ih]
theorem cb_trans (a b c : List UInt8) (h1 : Lib.compareBytes a b < 0) (h2 : Lib.compareBytes b c < 0) : Lib.compareBytes a c < 0 := by
  induction a generalizing b c with
  | nil =>
    cases c with
    | nil => cases b <;> simp [Lib.compareBytes] at h1 h2
    | cons _ _ => simp [Lib.compareBytes]
  | cons x r ih =>
    cases b with
    | nil => simp [Lib.compareBytes] at h1
    | cons y s =>
      cases c with
      | nil => simp [Lib.compareBytes] at h2
      | cons z t =>
        rw [cb_cons] at h1 h2 ⊢
        split at h1
        · split at h2
          · rw [if_pos (by omega)]; omega
          · split at h2
            · omega
            · rw [if_pos (by omega)]; omega
        · split at h1
          · omega
          · split at h2
            · rw [if_pos (by omega)]; omega
            · split at h2
              · omega
              · rw [if_neg (by omega), if_neg (by omega)]; exact ih s t h1 h2
theorem cf_refl (p : Ur.Pr) : cfP p p = 0 := by simp [cfP, or2, cb_refl]
theorem cf_zero (p q : Ur.Pr) (h : cfP p q = 0) : p = q := by
  unfold cfP or2 at h
  split at h
  · rename_i h1; exact absurd h h1
  · rename_i h1
    have e1 := cb_zero _ _ (show Lib.compareBytes p.1 q.1 = 0 by omega)
    have e2 := cb_zero _ _ h
    exact Prod.ext e1 e2
theorem cf_neg (p q : Ur.Pr) : cfP q p = - cfP p q := by
  unfold cfP or2
  rw [cb_neg p.1 q.1, cb_neg p.2 q.2]
  by_cases h : Lib.compareBytes p.1 q.1 = 0
  · rw [h]; simp
  · rw [if_pos (by omega), if_pos h]
theorem cf_trans (p q r : Ur.Pr) (h1 : cfP p q < 0) (h2 : cfP q r < 0) : cfP p r < 0 := by
  unfold cfP or2 at *
  by_cases a : Lib.compareBytes p.1 q.1 = 0
  · have ea := cb_zero _ _ a
    rw [if_neg (by omega)] at h1
    rw [ea]
    by_cases b : Lib.compareBytes q.1 r.1 = 0
    · rw [if_neg (by omega)] at h2 ⊢
      exact cb_trans _ _ _ h1 h2
    · rw [if_pos b] at h2 ⊢
      exact h2
  · rw [if_pos a] at h1
    by_cases b : Lib.compareBytes q.1 r.1 = 0
    · have eb := cb_zero _ _ b
      rw [← eb, if_pos a]
      exact h1
    · rw [if_pos b] at h2
      have := cb_trans _ _ _ h1 h2
      rw [if_pos (by omega)]
      exact this
theorem swoP : SWO (ltOf cfP) where
  irrefl x := by simp [ltOf, cf_refl]
  trans x y z h1 h2 := by
    simp only [ltOf, decide_eq_true_eq] at *
    exact cf_trans x y z h1 h2
  ntrans x y z h1 h2 := by
    simp only [ltOf, decide_eq_false_iff_not] at *
    intro h
    have n1 := cf_neg x y
    have n2 := cf_neg y z
    by_cases a : cfP x y = 0
    · rw [cf_zero _ _ a] at h; exact h2 h
    · have := cf_trans y x z (by omega) h
      exact h2 this
theorem totP (x y : Ur.Pr) (h1 : ltOf cfP x y = false) (h2 : ltOf cfP y x = false) : x = y := by
  simp only [ltOf, decide_eq_false_iff_not] at *
  have := cf_neg x y
  exact cf_zero x y (by omega)
/-- The pairs in their order. -/
def srt (l : List Ur.Pr) : List Ur.Pr := l.mergeSort fun x y => !(ltOf cfP) y x
theorem srt_perm (l : List Ur.Pr) : (srt l).Perm l := List.mergeSort_perm _ _
theorem srt_sorted (l : List Ur.Pr) : (srt l).Pairwise fun x y => (!(ltOf cfP) y x) = true := by
  refine List.pairwise_mergeSort ?_ ?_ l
  · intro a b c h1 h2
    simp only [Bool.not_eq_true'] at *
    exact swoP.ntrans c b a h2 h1
  · intro a b
    simp only [Bool.or_eq_true, Bool.not_eq_true']
    by_cases h : ltOf cfP b a = false
    · exact .inl h
    · right
      simp only [ltOf, decide_eq_false_iff_not, Decidable.not_not] at *
      have := cf_neg a b
      omega
theorem srt_of_perm {l m : List Ur.Pr} (h : l.Perm m) : srt l = srt m := by
  have hp : (srt l).Perm (srt m) := (srt_perm l).trans (h.trans (srt_perm m).symm)
  refine hp.eq_of_pairwise ?_ (srt_sorted l) (srt_sorted m)
  intro a b _ _ h1 h2
  simp only [Bool.not_eq_true'] at h1 h2
  exact (totP b a h1 h2).symm
theorem srt_of_sorted {l m : List Ur.Pr} (h : l.Perm m) (hs : l.Pairwise fun x y => ltOf cfP y x = false) : l = srt m := by
  refine (h.trans (srt_perm m).symm).eq_of_pairwise ?_ (hs.imp (fun h => by rw [h]; rfl)) (srt_sorted m)
  intro a b _ _ h1 h2
  simp only [Bool.not_eq_true'] at h1 h2
  exact (totP b a h1 h2).symm
end Go.Proofs.Ytiodbkloecpdcaa
