/- json.Find. -/
import Derived.Test.YthfnlnhehececaaDoorNCopy2
namespace Go.Proofs.YthfnlnhehececaaDoor
open Go Go.RowKit

theorem copy_at : ∀ j, CopyC j := by
  intro j
  induction j using Js.J.ind with
  | h k t ns ks ih =>
    intro v B w hf hat hB
    obtain ⟨nv, kv, vs, rfl, _, _, hn, hk, hl, hs⟩ := hat.jv_
    cases hf with
    | mk _ _ _ _ h1 h2 h3 h4 h5 => exact copy_one k t ns ks nv kv vs B w ih h1 h2 h3 h4 h5 hn hk hl hs hB
namespace Js
theorem rts_ge (f : J → Nat → Bool × Nat) (hf : ∀ j n, n + 1 ≤ (f j n).2) : ∀ ks n, (rts f ks n).1 = true → n + ks.length ≤ (rts f ks n).2
  | [], n, _ => Nat.le_refl _
  | j :: r, n, h => by
    rw [rts] at h ⊢
    by_cases hj : (f j n).1 = true
    · rw [if_pos hj] at h ⊢
      have := rts_ge f hf r _ h
      have := hf j n
      simp only [List.length_cons]
      omega
    · rw [if_neg hj] at h; cases h
theorem rts_grow (f : J → Nat → Bool × Nat) (hf : ∀ j n, n + 1 ≤ (f j n).2) : ∀ ks n, n ≤ (rts f ks n).2
  | [], n => Nat.le_refl _
  | j :: r, n => by
    rw [rts]
    have h1 := hf j n
    by_cases hj : (f j n).1 = true
    · rw [if_pos hj]
      have := rts_grow f hf r (f j n).2
      omega
    · rw [if_neg hj]; show n ≤ (f j n).2; omega
theorem rstep_grow (f : Option (J → Nat → Bool × Nat)) (hf : ∀ g, f = some g → ∀ j n, n + 1 ≤ (g j n).2) (j : J) (n : Nat) : n + 1 ≤ (rstep f j n).2 := by
  obtain ⟨k, t, ns, ks⟩ := j
  have hk : n + 1 ≤ (rkids f ks (n + 1)).2 := by
    cases f with
    | none => exact Nat.le_refl _
    | some g => exact rts_grow g (hf g rfl) ks _
  unfold rstep
  dsimp only
  repeat' split
  all_goals first | exact Nat.le_refl _ | exact hk
theorem rt_grow : ∀ d j n, n + 1 ≤ (rt d j n).2
  | 0, j, n => rstep_grow none (fun g h => by cases h) j n
  | d + 1, j, n => rstep_grow (some (rt d)) (fun g h => by cases h; exact rt_grow d) j n
theorem rts_all (f : J → Nat → Bool × Nat) : ∀ ks n, (rts f ks n).1 = true → ∀ j ∈ ks, ∃ m, (f j m).1 = true
  | [], n, _, j, hj => by cases hj
  | i :: r, n, h, j, hj => by
    rw [rts] at h
    by_cases hi : (f i n).1 = true
    · rw [if_pos hi] at h
      rcases List.mem_cons.1 hj with rfl | hj
      · exact ⟨n, hi⟩
      · exact rts_all f r _ h j hj
    · rw [if_neg hi] at h; cases h
/-- What a right value's parts are. -/
theorem rstep_parts {f : Option (J → Nat → Bool × Nat)} {k : Int} {t : List UInt8} {ns : List (List UInt8)} {ks : List J} {n : Nat} (h : (rstep f (.mk k t ns ks) n).1 = true) :
    (ns = [] ∧ ks = [] ∨ ns = [] ∧ (rkids f ks (n + 1)).1 = true ∨ ns.length = ks.length ∧ (rkids f ks (n + 1)).1 = true) ∧ n + 1 ≤ 8000 ∧ (rstep f (.mk k t ns ks) n).2 = (if k = 6 ∨ k = 7 then (rkids f ks (n + 1)).2 else n + 1) := by
  unfold rstep at h ⊢
  dsimp only at h ⊢
  by_cases h0 : 8000 < n + 1
  · rw [if_pos h0] at h; cases h
  have hn : n + 1 ≤ 8000 := Nat.le_of_not_lt h0
  rw [if_neg h0] at h ⊢
  by_cases h1 : k = 1 ∨ k = 2 ∨ k = 3
  · rw [if_pos h1] at h ⊢
    have : ¬ (k = 6 ∨ k = 7) := by omega
    rw [if_neg this]
    simp only [Bool.and_eq_true, List.isEmpty_iff] at h
    exact ⟨Or.inl ⟨h.1.2, h.2⟩, hn, rfl⟩
  rw [if_neg h1] at h ⊢
  by_cases h4 : k = 4
  · rw [if_pos h4] at h ⊢
    have : ¬ (k = 6 ∨ k = 7) := by omega
    rw [if_neg this]
    simp only [Bool.and_eq_true, List.isEmpty_iff] at h
    exact ⟨Or.inl h, hn, rfl⟩
  rw [if_neg h4] at h ⊢
  by_cases h5 : k = 5
  · rw [if_pos h5] at h ⊢
    have : ¬ (k = 6 ∨ k = 7) := by omega
    rw [if_neg this]
    simp only [Bool.and_eq_true, List.isEmpty_iff] at h
    exact ⟨Or.inl h.1, hn, rfl⟩
  rw [if_neg h5] at h ⊢
  by_cases h6 : k = 6
  · rw [if_pos h6] at h ⊢
    rw [if_pos (Or.inl h6)]
    by_cases hh : (t.isEmpty && ns.isEmpty) = true
    · rw [if_pos hh] at h ⊢
      simp only [Bool.and_eq_true, List.isEmpty_iff] at hh
      exact ⟨Or.inr (Or.inl ⟨hh.2, h⟩), hn, rfl⟩
    · rw [if_neg hh] at h; cases h
  rw [if_neg h6] at h ⊢
  by_cases h7 : k = 7
  · rw [if_pos h7] at h ⊢
    rw [if_pos (Or.inr h7)]
    by_cases hh : (t.isEmpty && nm ns ks.length) = true
    · rw [if_pos hh] at h ⊢
      simp only [Bool.and_eq_true, nm, decide_eq_true_eq] at hh
      exact ⟨Or.inr (Or.inr ⟨hh.2.1, h⟩), hn, rfl⟩
    · rw [if_neg hh] at h; cases h
  rw [if_neg h7] at h; cases h
theorem rt_slim : ∀ (d : Nat) (j : J) (n : Nat), Fit j → (rt d j n).1 = true → Slim j := by
  intro d
  induction d with
  | zero =>
    intro j n hf h
    obtain ⟨k, t, ns, ks⟩ := j
    cases hf with
    | mk _ _ _ _ a1 a2 a3 a4 a5 =>
    obtain ⟨h1, h2, _⟩ := rstep_parts (f := none) h
    rcases h1 with ⟨rfl, rfl⟩ | ⟨_, h⟩ | ⟨_, h⟩
    · exact .mk k t [] [] a1 (by simp) a3 (by simp) (fun j hj => by cases hj)
    · cases h
    · cases h
  | succ d ih =>
    intro j n hf h
    obtain ⟨k, t, ns, ks⟩ := j
    cases hf with
    | mk _ _ _ _ a1 a2 a3 a4 a5 =>
    obtain ⟨h1, h2, _⟩ := rstep_parts (f := some (rt d)) h
    have hks : (rkids (some (rt d)) ks (n + 1)).1 = true → ks.length ≤ 8000 ∧ ∀ j ∈ ks, Slim j := by
      intro hk
      have e1 := rts_ge (rt d) (rt_grow d) ks (n + 1) hk
      have e2 := rts_le (rt d) (rt_le d) ks (n + 1) h2 hk
      refine ⟨by omega, fun j hj => ?_⟩
      obtain ⟨m, hm⟩ := rts_all (rt d) ks (n + 1) hk j hj
      exact ih j m (a5 j hj) hm
    rcases h1 with ⟨rfl, rfl⟩ | ⟨rfl, hk⟩ | ⟨hl, hk⟩
    · exact .mk k t [] [] a1 (by simp) a3 (by simp) (fun j hj => by cases hj)
    · exact .mk k t [] ks a1 (by simp) a3 (hks hk).1 (hks hk).2
    · exact .mk k t ns ks a1 (by rw [hl]; exact (hks hk).1) a3 (hks hk).1 (hks hk).2
theorem right_slim {j : J} (hf : Fit j) (h : right j = true) : Slim j := rt_slim 20 j 0 hf h
/-- Where a name stands first. -/
def idxN : List (List UInt8) → List UInt8 → Option Nat
  | [], _ => none
  | n :: r, x => if n = x then some 0 else (idxN r x).map (· + 1)
theorem idxN_some : ∀ {ns : List (List UInt8)} {x : List UInt8} {i : Nat}, idxN ns x = some i → ns[i]? = some x ∧ ∀ j, j < i → ns[j]? ≠ some x
  | [], x, i, h => by cases h
  | n :: r, x, i, h => by
    rw [idxN] at h
    by_cases hn : n = x
    · rw [if_pos hn] at h
      obtain rfl : 0 = i := by injection h
      exact ⟨by rw [← hn]; rfl, fun j hj => by omega⟩
    · rw [if_neg hn] at h
      cases hr : idxN r x with
      | none => rw [hr] at h; cases h
      | some q =>
        rw [hr] at h
        obtain rfl : q + 1 = i := by injection h
        obtain ⟨h1, h2⟩ := idxN_some hr
        refine ⟨h1, fun j hj => ?_⟩
        cases j with
        | zero => simpa using hn
        | succ j => simpa using h2 j (by omega)
theorem idxN_none : ∀ {ns : List (List UInt8)} {x : List UInt8}, idxN ns x = none → ∀ j : Nat, ns[j]? ≠ some x
  | [], x, _, j => by simp
  | n :: r, x, h, j => by
    rw [idxN] at h
    by_cases hn : n = x
    · rw [if_pos hn] at h; cases h
    · rw [if_neg hn] at h
      have hr : idxN r x = none := by
        cases hr : idxN r x with
        | none => rfl
        | some q => rw [hr] at h; cases h
      cases j with
      | zero => simpa using hn
      | succ j => simpa using idxN_none hr j
/-- What stands in an object under a name. -/
def find (j : J) (x : List UInt8) : Option J :=
  match j with
  | .mk k _ ns ks => if k = 7 ∧ right j = true then (idxN ns x).bind fun i => ks[i]? else none
end Js
def idxV : Option Nat → Int
  | some i => i
  | none => -1
theorem namesIdx_any (F : Nat → Prop) (ns : List (List UInt8)) (nv : Value) (x : List UInt8) (w : World) (h : NsAt w F nv ns) (hl : ns.length ≤ 140737488355328) :
    Calls Tryd.prog 28 #[nv, .string (bs x)] w fun e w' => e = .returned (.int .i64 (idxV (Js.idxN ns x))) ∧ w' = w := by
  obtain ⟨a, c, rfl, _⟩ := h.sl
  by_cases hn : ns = []
  · subst hn
    exact (k_slices_Index_string_empty a c (bs x) w).mono fun e w' ⟨h1, h2⟩ => ⟨h1, h2⟩
  · obtain ⟨g, o, rfl, _, hc⟩ := h.cells hn
    refine (k_slices_Index_string g o ns.length c (ns.map bs) (bs x) w (by simp) (by omega) hc).mono ?_
    rintro e w' ⟨rfl, rfl⟩
    have hget : ∀ j, j < ns.length → (ns.map bs).getD j ByteArray.empty = bs (ns.getD j []) := fun j hj => by
      rw [List.getD, List.getElem?_map, List.getElem?_eq_getElem hj, List.getD, List.getElem?_eq_getElem hj]; rfl
    refine ⟨?_, rfl⟩
    cases hi : Js.idxN ns x with
    | some i =>
      obtain ⟨h1, h2⟩ := Js.idxN_some hi
      have hil := (List.getElem?_eq_some_iff.1 h1).1
      rw [Lib.idxOfS_hit (ns.map bs) ns.length i (bs x) hil (by simp) (by rw [hget i hil, List.getD, h1]; rfl) (fun j hj e => by
        rw [hget j (by omega)] at e
        have := bs_inj e
        rw [List.getD, List.getElem?_eq_getElem (by omega)] at this
        exact h2 j hj (by rw [List.getElem?_eq_getElem (by omega)]; exact congrArg some this))]
      rfl
    | none =>
      rw [Lib.idxOfS_miss (ns.map bs) ns.length (bs x) (fun j hj e => by
        rw [hget j hj] at e
        have := bs_inj e
        rw [List.getD, List.getElem?_eq_getElem hj] at this
        exact Js.idxN_none hi j (by rw [List.getElem?_eq_getElem hj]; exact congrArg some this))]
      rfl
end Go.Proofs.YthfnlnhehececaaDoor
