/- The walk of JournalAnew. -/
import Derived.Test.YtfancfladdecjaaGreatDoorJKnown
namespace Go.Proofs.YtfancfladdecjaaGreatDoor
open Go.RowKit

theorem pick_is (c : Int) (n : Nat) (hn : 0 < n) (hn2 : n ≤ 1000000) (hc : -9223372036854775808 ≤ c ∧ c ≤ 9223372036854775807) : ∃ r : Nat, r < n ∧ ∀ w : World, Calls Tryz.prog 9 #[.int .i64 c, .int .i64 n] w fun e w' => e = .returned (.int .i64 r) ∧ w = w' := by
  by_cases h0 : c < 0
  · obtain ⟨x, hx⟩ : ∃ x : Nat, -(c + 1) = (x : Int) := ⟨(-(c + 1)).toNat, by omega⟩
    refine ⟨x % n, Nat.mod_lt _ hn, fun w => ?_⟩
    have e1 : ((x : Int)).tmod (n : Int) = ((x % n : Nat) : Int) := by rw [Int.tmod_eq_emod_of_nonneg (by omega)]; rfl
    have e2 : ((x : Int)) % (n : Int) = ((x % n : Nat) : Int) := rfl
    have hz : ¬ ((n : Int) = 0) := by omega
    have hlt := Nat.mod_lt x hn
    obtain ⟨r, hr⟩ : ∃ r, r = x % n := ⟨_, rfl⟩
    rw [← hr] at e1 e2 hlt ⊢
    clear hr
    go_enter Tryz.func9, Tryz.ntmps9
    go_wp2
    go_ret
    exact ⟨rfl, rfl⟩
  · obtain ⟨x, rfl⟩ : ∃ x : Nat, c = (x : Int) := ⟨c.toNat, by omega⟩
    refine ⟨x % n, Nat.mod_lt _ hn, fun w => ?_⟩
    have e1 : ((x : Int)).tmod (n : Int) = ((x % n : Nat) : Int) := by rw [Int.tmod_eq_emod_of_nonneg (by omega)]; rfl
    have e2 : ((x : Int)) % (n : Int) = ((x % n : Nat) : Int) := rfl
    have hz : ¬ ((n : Int) = 0) := by omega
    have hlt := Nat.mod_lt x hn
    obtain ⟨r, hr⟩ : ∃ r, r = x % n := ⟨_, rfl⟩
    rw [← hr] at e1 e2 hlt ⊢
    clear hr
    go_enter Tryz.func9, Tryz.ntmps9
    go_wp2
    go_ret
    exact ⟨rfl, rfl⟩
/-- What lies in none of a disk's blocks. -/
def Aw (v : Value) (p j : Nat) (F : List Nat) : Prop := ∀ g, textsBlock v = some g → g ∉ [p, j] ∧ g ∉ F
theorem Aw.mv {v : Value} {p j : Nat} {F F' X : List Nat} {l : List (List UInt8)} {w w' : World} (h : Aw v p j F) (hT : Texts v l w) (hM : Mv X F F' w w') : Aw v p j F' :=
  fun g hg => ⟨(h g hg).1, hM.away (hT.lt hg) (h g hg).2⟩
theorem secsAll_cut (l : List (List UInt8)) (n : Nat) : secsAll (cutAll l n 100) ≤ 2 * n := by
  have h1 := length_cutAll l n 100
  have h2 := cutAll_short l n 100
  obtain ⟨x, hx⟩ : ∃ x, x = cutAll l n 100 := ⟨_, rfl⟩
  rw [← hx] at h1 h2 ⊢
  clear hx
  induction x generalizing n with
  | nil => rw [secsAll_nil]; omega
  | cons s x ih =>
    rw [List.length_cons] at h1
    have := ih (n - 1) (fun t ht => h2 t (List.mem_cons_of_mem _ ht)) (by omega)
    have hs := h2 s (List.mem_cons_self ..)
    rw [secsAll_cons, secs_eq]
    omega
theorem Texts.kp {v : Value} {l : List (List UInt8)} {w w' : World} {p j : Nat} {F : List Nat} (h : Texts v l w) (hk : Kept w.heap.size [p] w w') (hA : Aw v p j F) : Texts v l w' :=
  h.mv (F := F) (F' := F) (X := [p, j]) (Mv.of_kept hk (fun _ hx => by simp at hx; simp [hx])) hA
theorem Texts.kf {v : Value} {l : List (List UInt8)} {w w' : World} {p j : Nat} {F : List Nat} (h : Texts v l w) (hk : Kept w.heap.size F w w') (hA : Aw v p j F) : Texts v l w' :=
  h.mv (F := F) (F' := F) (X := [p, j]) ⟨hk.mono (Nat.le_refl _) (fun _ _ hm => List.mem_append.2 (Or.inr hm)), fun _ h => Or.inl h⟩ hA
theorem take_more {l : List (List UInt8)} {i : Nat} (h : i < l.length) : l.take (i + 1) = l.take i ++ [l.getD i []] := by
  rw [List.take_succ_eq_append_getElem h, List.getD, List.getElem?_eq_getElem h]; rfl
theorem secsAll_short (l : List (List UInt8)) (n : Nat) (hl : l.length ≤ n) (h : ∀ s ∈ l, s.length ≤ 100) : secsAll l ≤ 2 * n := by
  induction l generalizing n with
  | nil => rw [secsAll_nil]; omega
  | cons s x ih =>
    rw [List.length_cons] at hl
    have := ih (n - 1) (by omega) (fun t ht => h t (List.mem_cons_of_mem _ ht))
    have hs := h s (List.mem_cons_self ..)
    rw [secsAll_cons, secs_eq]
    omega
theorem Texts.at_ {v : Value} {l : List (List UInt8)} {w : World} (h : Texts v l w) {i : Nat} (hi : i < l.length) : ∃ g off cap, v = .slice (some ⟨g, off, none⟩) l.length cap ∧ w.cell? ⟨g, off + i, none⟩ = some (.string (bs (l.getD i []))) := by
  rcases h with ⟨_, h0⟩ | ⟨g, off, cap, hv, _, hc⟩
  · rw [h0] at hi; simp at hi
  · exact ⟨g, off, cap, hv, hc i hi⟩
end Go.Proofs.YtfancfladdecjaaGreatDoor
