/- For the statement DiskKeeps: a block beside the disk stays as it is; what is wanted, plainly. -/
import Derived.Test.YtjkigndhbbeolaaDTurns
namespace Go.Proofs.Ytjkigndhbbeolaa
open Go.RowKit

/-- A block that is neither the power's nor the disk's. -/
def Away (k p : Nat) (F : List Nat) (w : World) : Prop := k < w.heap.size ∧ k ≠ p ∧ k ∉ F
/-- What is away stays away, as it was. -/
def Stays (p : Nat) (F F' : List Nat) (w w' : World) : Prop := ∀ k, Away k p F w → Away k p F' w' ∧ w'.heap[k]? = w.heap[k]?
theorem Stays.below {p : Nat} {F : List Nat} {w w' : World} (hb : Below w.heap.size w w') : Stays p F F w w' := fun k h => ⟨⟨Nat.lt_of_lt_of_le h.1 hb.size, h.2⟩, hb.block k h.1⟩
section
variable {w0 w : World} {p d : Nat} {F : List Nat} {n : Nat} {S : List (List UInt8)} {ps : List Dk.Wr} {acts : Nat}
theorem Rack.write2 (h : Rack w0 p d F n S ps acts w) (a : Nat) (q : ByteArray) (ha : a < n) (hq : q.size = 64) (hfew : ps.length < 1000000) (hacts : acts ≤ 1000000000) :
    Calls Try.prog 24 #[.pointer (some ⟨d, 0, none⟩), .int .i64 a, .string q] w fun e w' => e = .returned .nilIface ∧ ∃ F', Rack w0 p d F' n S (ps ++ [(a, q.data.toList)]) (acts + 1) w' ∧ Stays p F F' w w' := by
  refine (Write_ok d p F n S ps 0 (-1) acts a q ha hq hfew (by omega) (by omega) (by omega) (by omega) (by omega) w h.liv h.pow).mono ?_
  rintro e w' ⟨rfl, F', hL, hP, hF, hk⟩
  have hz := h.old.size
  refine ⟨rfl, F', ⟨by rw [less_none] at hP; exact hP, hL, h.old.trans ((hk.mono hz (fun _ _ hm => hm)).below (fun k hm => ?_)), h.pn, fun x hx => ?_⟩, fun k hk1 => ⟨⟨Nat.lt_of_lt_of_le hk1.1 hk.size, hk1.2.1, fun hm => ?_⟩, hk.block k hk1.1 (by simp; exact ⟨hk1.2.1, hk1.2.2⟩)⟩⟩
  · rcases List.mem_cons.1 hm with rfl | hm
    · exact h.pn
    · exact h.fn k hm
  · rcases hF x hx with h1 | h1
    · exact h.fn x h1
    · omega
  · rcases hF k hm with h1 | h1
    · exact hk1.2.2 h1
    · have := hk1.1; omega
theorem Rack.flush2 (h : Rack w0 p d F n S ps acts w) (hacts : acts ≤ 1000000000) :
    Calls Try.prog 25 #[.pointer (some ⟨d, 0, none⟩)] w fun e w' => e = .returned .nilIface ∧ (Rack w0 p d F n (Dk.settleTo S ps (fun _ => 64) ps.length) [] (acts + 1) w' ∧ Stays p F F w w') := by
  refine (Flush_ok d p F n S ps 0 (-1) acts (by omega) (by omega) (by omega) (by omega) (by omega) w h.liv h.pow).mono ?_
  rintro e w' ⟨rfl, hL, hP, hk⟩
  have hz := h.old.size
  refine ⟨rfl, ⟨by rw [less_none] at hP; exact hP, hL, h.old.trans ((hk.mono hz (fun _ _ hm => hm)).below (fun k hm => ?_)), h.pn, h.fn⟩, fun k hk1 => ⟨⟨Nat.lt_of_lt_of_le hk1.1 hk.size, hk1.2⟩, hk.block k hk1.1 (by simp; exact ⟨hk1.2.1, hk1.2.2⟩)⟩⟩
  rcases List.mem_cons.1 hm with rfl | hm
  · exact h.pn
  · exact h.fn k hm
theorem yes_none (w : World) : Yes (.slice none 0 0) 0 0 [] [] w := ⟨⟨none, 0, rfl, Or.inl rfl⟩, Or.inl rfl, fun i hi => by simp at hi, by simp⟩
theorem Rack.lose2 (h : Rack w0 p d F n S ps acts w) :
    Calls Try.prog 27 #[.pointer (some ⟨d, 0, none⟩), .slice none 0 0, .int .i64 0] w fun e w' => e = .returned (.tuple #[]) ∧ (Rack w0 p d F n (Dk.settleTo S ps (Dk.keptAt [] (Dk.clamp 0)) ps.length) [] acts w' ∧ Stays p F F w w') := by
  have hpF : p ∉ F := by obtain ⟨_, _, _, _, _, _, _, _, h5, _⟩ := h.liv; exact h5
  refine (Lose_any d p F n S ps 0 _ 0 0 [] [] 0 w h.liv (yes_none w) (by simp)).mono ?_
  rintro e w' ⟨rfl, hL, hk⟩
  have hz := h.old.size
  exact ⟨rfl, ⟨h.pow.keep (hk.block p h.pow.lt hpF), hL, h.old.trans ((hk.mono hz (fun _ _ hm => hm)).below h.fn), h.pn, h.fn⟩, fun k hk1 => ⟨⟨Nat.lt_of_lt_of_le hk1.1 hk.size, hk1.2⟩, hk.block k hk1.1 hk1.2.2⟩⟩
theorem Rack.sector2 (h : Rack w0 p d F n S ps acts w) (s q : ByteArray) (hs : s.size ≤ 9223372036854775807) (hq : q.data.toList = Dk.sector s.data.toList) :
    Calls Try.prog 15 #[.string s] w fun e w' => e = .returned (.string q) ∧ (Rack w0 p d F n S ps acts w' ∧ Stays p F F w w') := (sector_is s q hs hq w).mono fun _ _ ⟨he, hb⟩ => ⟨he, h.below hb, Stays.below hb⟩
end

/-! What is wanted. -/
def strOf (l : List UInt8) : ByteArray := ⟨l.toArray⟩
theorem strOf_list (l : List UInt8) : (strOf l).data.toList = l := by simp [strOf]
theorem strOf_size (l : List UInt8) : (strOf l).size = l.length := by rw [← size_toList, strOf_list]
/-- The j-th writes of a list of texts, at the sectors that 'at' says. -/
def psOf (pl : Nat → Nat) (ss : List ByteArray) (j : Nat) : List Dk.Wr := (List.range j).map fun i => (pl i, Dk.sector (ss.getD i ByteArray.empty).data.toList)
theorem psOf_zero (pl : Nat → Nat) (ss : List ByteArray) : psOf pl ss 0 = [] := rfl
theorem psOf_succ (pl : Nat → Nat) (ss : List ByteArray) (j : Nat) : psOf pl ss (j + 1) = psOf pl ss j ++ [(pl j, Dk.sector (ss.getD j ByteArray.empty).data.toList)] := by
  rw [psOf, List.range_succ, List.map_append]; rfl
theorem length_psOf (pl : Nat → Nat) (ss : List ByteArray) (j : Nat) : (psOf pl ss j).length = j := by simp [psOf]
theorem psOf_ok {pl : Nat → Nat} {n : Nat} (hp : ∀ i, pl i < n) (ss : List ByteArray) (j : Nat) : ∀ x ∈ psOf pl ss j, x.1 < n ∧ x.2.length = 64 := by
  intro x hx
  obtain ⟨i, _, rfl⟩ := List.mem_map.1 hx
  exact ⟨hp i, Dk.length_sector _⟩
theorem blankS_len : (blankS 8).length = 8 := rfl
theorem blankS_wide : ∀ x ∈ blankS 8, x.length = 64 := fun x hx => by rw [blankS] at hx; rw [List.eq_of_mem_replicate hx, List.length_replicate]
/-- The array of what is wanted. -/
def wantC (ps : List Dk.Wr) : List Value := (List.range 8).map fun i => Value.string (strOf (Dk.readAt (blankS 8) ps i))
theorem length_wantC (ps : List Dk.Wr) : (wantC ps).length = 8 := by simp [wantC]
theorem wantC_at (ps : List Dk.Wr) {i : Nat} (hi : i < 8) : (wantC ps)[i]? = some (.string (strOf (Dk.readAt (blankS 8) ps i))) := by
  simp [wantC, hi]
theorem wantC_snoc (ps : List Dk.Wr) (a : Nat) (l : List UInt8) (ha : a < 8) : wantC (ps ++ [(a, l)]) = (wantC ps).set a (.string (strOf l)) := by
  apply List.ext_getElem?
  intro i
  by_cases hi : i < 8
  · rw [wantC_at _ hi, Dk.readAt_snoc _ _ _ _ (show a < (blankS 8).length from ha), List.getElem?_set]
    by_cases e : a = i
    · subst e; rw [if_pos rfl, if_pos rfl, if_pos (by rw [length_wantC]; exact ha)]
    · rw [if_neg (fun h => e h.symm), if_neg e, wantC_at _ hi]
  · rw [List.getElem?_eq_none (by rw [length_wantC]; omega), List.getElem?_eq_none (by rw [List.length_set, length_wantC]; omega)]
/-- .. as far as it has been filled. -/
def blankC (j : Nat) : List Value := (List.range 8).map fun i => Value.string (if i < j then strOf (List.replicate 64 0) else ⟨#[]⟩)
theorem blankC_set (j : Nat) (hj : j < 8) : blankC (j + 1) = (blankC j).set j (.string (strOf (List.replicate 64 0))) := by
  apply List.ext_getElem?
  intro i
  rw [List.getElem?_set]
  by_cases hi : i < 8
  · by_cases e : j = i
    · subst e; simp [blankC, hi]
    · rw [if_neg e]
      simp only [blankC, List.getElem?_map, List.getElem?_range hi, Option.map_some]
      congr 2
      by_cases h : i < j
      · rw [if_pos h, if_pos (by omega)]
      · rw [if_neg h, if_neg (by omega)]
  · simp only [blankC, List.length_map, List.length_range]
    rw [List.getElem?_eq_none (by simp; omega)]
    split
    · omega
    · rw [List.getElem?_eq_none (by simp; omega)]
theorem length_blankC (j : Nat) : (blankC j).length = 8 := by simp [blankC]
theorem blankC_all : blankC 8 = wantC [] := by
  rw [blankC, wantC]
  apply List.map_congr_left
  intro i hi
  have hi8 : i < 8 := by simpa using hi
  rw [if_pos hi8, Dk.readAt_nil, blankS, getD_in (by rw [List.length_replicate]; exact hi8), List.getElem_replicate]
/-- What the flush leaves. -/
def keptS (ps : List Dk.Wr) : List (List UInt8) := Dk.settleTo (blankS 8) ps (fun _ => 64) ps.length
theorem keptS_len (ps : List Dk.Wr) : (keptS ps).length = 8 := by rw [keptS, Dk.length_settleTo, blankS_len]
theorem keptS_wide {ps : List Dk.Wr} (hp : ∀ x ∈ ps, x.1 < 8 ∧ x.2.length = 64) : ∀ x ∈ keptS ps, x.length = 64 := Dk.settleTo_wide _ blankS_wide (by rw [blankS_len]; exact hp) ps.length (Nat.le_refl _)
theorem keptS_at {ps : List Dk.Wr} (hp : ∀ x ∈ ps, x.1 < 8 ∧ x.2.length = 64) (i : Nat) : (keptS ps).getD i [] = Dk.readAt (blankS 8) ps i := by
  rw [keptS, Dk.flushed_at _ _ blankS_wide (by rw [blankS_len]; exact hp) ps.length (Nat.le_refl _), List.take_length]
theorem settle_none' {S : List (List UInt8)} {ps : List Dk.Wr} {kept : Nat → Nat} (hk : ∀ j, kept j = 0) (hp : ∀ w ∈ ps, w.1 < S.length ∧ w.2.length = 64) (j : Nat) (hj : j ≤ ps.length) : Dk.settleTo S ps kept j = S := by
  have e : kept = fun _ => 0 := funext hk
  rw [e]; exact Dk.settleTo_none S ps hp j hj
theorem clamp_0 : Dk.clamp 0 = 0 := by have := Dk.clamp_eq 0; omega
theorem lost_none {S : List (List UInt8)} {ps : List Dk.Wr} (hp : ∀ w ∈ ps, w.1 < S.length ∧ w.2.length = 64) : Dk.settleTo S ps (Dk.keptAt [] (Dk.clamp 0)) ps.length = S := by
  rw [clamp_0]; exact settle_none' Dk.keptAt_nil hp _ (Nat.le_refl _)
theorem blankC_zero : blankC 0 = [.string ⟨#[]⟩, .string ⟨#[]⟩, .string ⟨#[]⟩, .string ⟨#[]⟩, .string ⟨#[]⟩, .string ⟨#[]⟩, .string ⟨#[]⟩, .string ⟨#[]⟩] := rfl
theorem keptS_eq (ps : List Dk.Wr) : keptS ps = Dk.settleTo (blankS 8) ps (fun _ => 64) ps.length := rfl
attribute [irreducible] strOf psOf wantC blankC keptS
end Go.Proofs.Ytjkigndhbbeolaa
