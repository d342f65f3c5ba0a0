/- Disks, plainly: what lasts, what waits, which write is a sector's newest. No program is imported here. -/
namespace Go.Proofs.YtmobjpandmdmdaaGreatDoor.Dk

/-- A write that waits: where, what. -/
abbrev Wr := Nat × List UInt8
/-- Of each sector the number (from 1 on) of the last of the first k writes to it; 0: none. -/
def newest (n : Nat) (ps : List Wr) : Nat → List Nat
  | 0 => List.replicate n 0
  | k + 1 => (newest n ps k).set (ps.getD k (0, [])).1 (k + 1)
theorem newest_zero (n : Nat) (ps : List Wr) : newest n ps 0 = List.replicate n 0 := rfl
theorem newest_succ (n : Nat) (ps : List Wr) (k : Nat) : newest n ps (k + 1) = (newest n ps k).set (ps.getD k (0, [])).1 (k + 1) := rfl
theorem length_newest (n : Nat) (ps : List Wr) (k : Nat) : (newest n ps k).length = n := by
  induction k with
  | zero => simp [newest]
  | succ k ih => rw [newest, List.length_set, ih]
theorem newest_append (n : Nat) (ps qs : List Wr) (k : Nat) (h : k ≤ ps.length) : newest n (ps ++ qs) k = newest n ps k := by
  induction k with
  | zero => rfl
  | succ k ih =>
    have e : (ps ++ qs).getD k (0, []) = ps.getD k (0, []) := by
      rw [List.getD, List.getD, List.getElem?_append_left (by omega)]
    rw [newest, newest, ih (by omega), e]
def news (n : Nat) (ps : List Wr) : List Nat := newest n ps ps.length
theorem news_nil (n : Nat) : news n [] = List.replicate n 0 := rfl
theorem news_snoc (n : Nat) (ps : List Wr) (w : Wr) : news n (ps ++ [w]) = (news n ps).set w.1 (ps.length + 1) := by
  have e : (ps ++ [w]).getD ps.length (0, []) = w := by simp [List.getD]
  rw [news, List.length_append, List.length_singleton, newest_succ, newest_append n ps [w] ps.length (Nat.le_refl _), e]; rfl
theorem length_news (n : Nat) (ps : List Wr) : (news n ps).length = n := length_newest n ps _
theorem newest_le (n : Nat) (ps : List Wr) (k a : Nat) : (newest n ps k).getD a 0 ≤ k := by
  induction k with
  | zero =>
    rw [newest_zero, List.getD]
    rcases Nat.lt_or_ge a n with h | h
    · simp [h]
    · simp [List.getElem?_eq_none (l := List.replicate n 0) (i := a) (by simpa using h)]
  | succ k ih =>
    rw [newest_succ, List.getD, List.getElem?_set]
    split
    · split
      · simp
      · simp
    · have := ih; rw [List.getD] at this; omega
theorem newest_at (n : Nat) (ps : List Wr) (k a : Nat) (h : (newest n ps k).getD a 0 ≠ 0) : (ps.getD ((newest n ps k).getD a 0 - 1) (0, [])).1 = a := by
  induction k with
  | zero => exact absurd (Nat.le_zero.1 (newest_le n ps 0 a)) h
  | succ k ih =>
    by_cases e : (ps.getD k (0, [])).1 = a
    · by_cases hl : a < n
      · have hg : (newest n ps (k + 1)).getD a 0 = k + 1 := by
          rw [newest_succ, e, List.getD, List.getElem?_set_self (by rw [length_newest]; exact hl)]; rfl
        rw [hg, Nat.add_sub_cancel]; exact e
      · rw [List.getD, List.getElem?_eq_none (by rw [length_newest]; omega)] at h
        exact absurd rfl h
    · have hg : (newest n ps (k + 1)).getD a 0 = (newest n ps k).getD a 0 := by
        rw [newest_succ, List.getD, List.getElem?_set_ne e, ← List.getD]
      rw [hg] at h ⊢
      exact ih h

/-- What a sector reads as. -/
def readAt (S : List (List UInt8)) (ps : List Wr) (a : Nat) : List UInt8 :=
  if (news S.length ps).getD a 0 = 0 then S.getD a [] else (ps.getD ((news S.length ps).getD a 0 - 1) (0, [])).2
theorem readAt_old {S : List (List UInt8)} {ps : List Wr} {a : Nat} (h : (news S.length ps).getD a 0 = 0) : readAt S ps a = S.getD a [] := if_pos h
theorem readAt_new {S : List (List UInt8)} {ps : List Wr} {a m : Nat} (h : (news S.length ps).getD a 0 = m + 1) : readAt S ps a = (ps.getD m (0, [])).2 := by
  rw [readAt, if_neg (by omega), h]; rfl
theorem readAt_nil (S : List (List UInt8)) (a : Nat) : readAt S [] a = S.getD a [] := by
  apply readAt_old
  exact Nat.le_zero.1 (newest_le S.length [] 0 a)
theorem readAt_snoc (S : List (List UInt8)) (ps : List Wr) (w : Wr) (a : Nat) (hw : w.1 < S.length) : readAt S (ps ++ [w]) a = if a = w.1 then w.2 else readAt S ps a := by
  by_cases e : a = w.1
  · rw [if_pos e, readAt_new (m := ps.length)]
    · simp [List.getD]
    · rw [news_snoc, List.getD, e, List.getElem?_set_self (by rw [length_news]; exact hw)]; rfl
  · rw [if_neg e]
    have e1 : (news S.length (ps ++ [w])).getD a 0 = (news S.length ps).getD a 0 := by
      rw [news_snoc, List.getD, List.getElem?_set_ne (fun h => e h.symm), ← List.getD]
    rw [readAt, readAt, e1]
    have := newest_le S.length ps ps.length a
    by_cases hz : (news S.length ps).getD a 0 = 0
    · rw [if_pos hz, if_pos hz]
    · rw [if_neg hz, if_neg hz, List.getD, List.getElem?_append_left (by unfold news at *; omega), ← List.getD]

/-- One write settled: its first 'k' bytes last. -/
def put (S : List (List UInt8)) (w : Wr) (k : Nat) : List (List UInt8) := S.set w.1 (w.2.take k ++ (S.getD w.1 []).drop k)
theorem put_eq (S : List (List UInt8)) (w : Wr) (k : Nat) : put S w k = S.set w.1 (w.2.take k ++ (S.getD w.1 []).drop k) := rfl
theorem length_put (S : List (List UInt8)) (w : Wr) (k : Nat) : (put S w k).length = S.length := List.length_set
/-- The first j writes settled, each as far as 'kept' says. -/
def settleTo (S : List (List UInt8)) (ps : List Wr) (kept : Nat → Nat) : Nat → List (List UInt8)
  | 0 => S
  | j + 1 => put (settleTo S ps kept j) (ps.getD j (0, [])) (kept j)
theorem settleTo_zero (S : List (List UInt8)) (ps : List Wr) (kept : Nat → Nat) : settleTo S ps kept 0 = S := rfl
theorem settleTo_succ (S : List (List UInt8)) (ps : List Wr) (kept : Nat → Nat) (j : Nat) : settleTo S ps kept (j + 1) = put (settleTo S ps kept j) (ps.getD j (0, [])) (kept j) := rfl
theorem length_settleTo (S : List (List UInt8)) (ps : List Wr) (kept : Nat → Nat) (j : Nat) : (settleTo S ps kept j).length = S.length := by
  induction j with
  | zero => rfl
  | succ j ih => rw [settleTo_succ, length_put, ih]
theorem put_wide {S : List (List UInt8)} {w : Wr} (k : Nat) (hS : ∀ s ∈ S, s.length = 64) (hw : w.2.length = 64) (hw1 : w.1 < S.length) : ∀ s ∈ put S w k, s.length = 64 := by
  intro s hs
  rcases List.mem_or_eq_of_mem_set hs with h | h
  · exact hS s h
  · rw [h, List.length_append, List.length_take, List.length_drop, List.getD, List.getElem?_eq_getElem hw1]
    have := hS S[w.1] (List.getElem_mem _)
    simp only [Option.getD_some]
    omega
theorem getD_mem_of_lt {ps : List Wr} {j : Nat} (h : j < ps.length) : ps.getD j (0, []) ∈ ps := by
  rw [List.getD, List.getElem?_eq_getElem h]; exact List.getElem_mem _
theorem settleTo_wide {S : List (List UInt8)} {ps : List Wr} (kept : Nat → Nat) (hS : ∀ s ∈ S, s.length = 64) (hp : ∀ w ∈ ps, w.1 < S.length ∧ w.2.length = 64) (j : Nat) (hj : j ≤ ps.length) : ∀ s ∈ settleTo S ps kept j, s.length = 64 := by
  induction j with
  | zero => exact hS
  | succ j ih =>
    have hm := hp _ (getD_mem_of_lt (by omega : j < ps.length))
    exact put_wide _ (ih (by omega)) hm.2 (by rw [length_settleTo]; exact hm.1)

/-- The numbers, where those of the first j writes are struck out. -/
def zeroTo (nw : List Nat) (ps : List Wr) : Nat → List Nat
  | 0 => nw
  | j + 1 => (zeroTo nw ps j).set (ps.getD j (0, [])).1 0
theorem zeroTo_zero (nw : List Nat) (ps : List Wr) : zeroTo nw ps 0 = nw := rfl
theorem zeroTo_succ (nw : List Nat) (ps : List Wr) (j : Nat) : zeroTo nw ps (j + 1) = (zeroTo nw ps j).set (ps.getD j (0, [])).1 0 := rfl
theorem length_zeroTo (nw : List Nat) (ps : List Wr) (j : Nat) : (zeroTo nw ps j).length = nw.length := by
  induction j with
  | zero => rfl
  | succ j ih => rw [zeroTo_succ, List.length_set, ih]
theorem zeroTo_at (nw : List Nat) (ps : List Wr) (j a : Nat) : (zeroTo nw ps j).getD a 0 = if (∃ i, i < j ∧ (ps.getD i (0, [])).1 = a) then 0 else nw.getD a 0 := by
  induction j with
  | zero => simp [zeroTo_zero]
  | succ j ih =>
    by_cases e : (ps.getD j (0, [])).1 = a
    · have hx : ∃ i, i < j + 1 ∧ (ps.getD i (0, [])).1 = a := ⟨j, by omega, e⟩
      rw [if_pos hx, zeroTo_succ, List.getD, List.getElem?_set, if_pos e]
      split <;> rfl
    · rw [zeroTo_succ, List.getD, List.getElem?_set_ne e, ← List.getD, ih]
      by_cases h : ∃ i, i < j ∧ (ps.getD i (0, [])).1 = a
      · obtain ⟨i, h1, h2⟩ := h
        rw [if_pos ⟨i, h1, h2⟩, if_pos ⟨i, by omega, h2⟩]
      · rw [if_neg h, if_neg]
        rintro ⟨i, h1, h2⟩
        by_cases hij : i = j
        · subst hij; exact e h2
        · exact h ⟨i, by omega, h2⟩
theorem zeroTo_all (n : Nat) (ps : List Wr) : zeroTo (news n ps) ps ps.length = List.replicate n 0 := by
  apply List.ext_getElem?
  intro a
  rcases Nat.lt_or_ge a n with h | h
  · have e := zeroTo_at (news n ps) ps ps.length a
    have hz : (zeroTo (news n ps) ps ps.length).getD a 0 = 0 := by
      rw [e]
      split
      · rfl
      · rename_i hn
        by_cases h0 : (news n ps).getD a 0 = 0
        · exact h0
        · exact absurd ⟨(news n ps).getD a 0 - 1, by have := newest_le n ps ps.length a; unfold news at *; omega, newest_at n ps ps.length a h0⟩ hn
    have hl : a < (zeroTo (news n ps) ps ps.length).length := by rw [length_zeroTo, length_news]; exact h
    rw [List.getD, List.getElem?_eq_getElem hl] at hz
    rw [List.getElem?_eq_getElem hl]
    simp only [Option.getD_some] at hz
    simp [hz, h]
  · rw [List.getElem?_eq_none (by rw [length_zeroTo, length_news]; exact h), List.getElem?_eq_none (by simpa using h)]

/-! What flushing and losing come to. -/
theorem put_at (S : List (List UInt8)) (w : Wr) (k a : Nat) (hw : w.1 < S.length) : (put S w k).getD a [] = if a = w.1 then w.2.take k ++ (S.getD w.1 []).drop k else S.getD a [] := by
  rw [put, List.getD, List.getElem?_set]
  by_cases e : a = w.1
  · rw [if_pos e.symm, if_pos (by omega), if_pos e]; rfl
  · rw [if_neg (fun h => e h.symm), if_neg e]; rfl
theorem flushed_at (S : List (List UInt8)) (ps : List Wr) (hS : ∀ s ∈ S, s.length = 64) (hp : ∀ w ∈ ps, w.1 < S.length ∧ w.2.length = 64) (j : Nat) (hj : j ≤ ps.length) (a : Nat) :
    (settleTo S ps (fun _ => 64) j).getD a [] = readAt S (ps.take j) a := by
  induction j with
  | zero => rw [settleTo_zero, List.take_zero, readAt_nil]
  | succ j ih =>
    have hlt : j < ps.length := by omega
    have hm := hp _ (getD_mem_of_lt hlt)
    have e : ps.take (j + 1) = ps.take j ++ [ps.getD j (0, [])] := by
      rw [List.take_succ_eq_append_getElem hlt, List.getD, List.getElem?_eq_getElem hlt]; rfl
    have hw := settleTo_wide (fun _ => 64) hS hp j (by omega)
    rw [settleTo_succ, put_at _ _ _ _ (by rw [length_settleTo]; exact hm.1), e, readAt_snoc _ _ _ _ hm.1]
    by_cases ha' : a = (ps.getD j (0, [])).1
    · rw [if_pos ha', if_pos ha', List.take_of_length_le (by omega), List.drop_eq_nil_of_le, List.append_nil]
      have hl : (ps.getD j (0, [])).1 < (settleTo S ps (fun _ => 64) j).length := by rw [length_settleTo]; exact hm.1
      have := hw _ (List.getElem_mem hl)
      rw [List.getD, List.getElem?_eq_getElem hl]; simp only [Option.getD_some]; omega
    · rw [if_neg ha', if_neg ha', ih (by omega)]
theorem put_none (S : List (List UInt8)) (w : Wr) (hw : w.1 < S.length) : put S w 0 = S := by
  apply List.ext_getElem?
  intro a
  rw [put, List.getElem?_set]
  split
  · rename_i e
    subst e
    simp [hw, List.getD]
  · rfl
theorem settleTo_none (S : List (List UInt8)) (ps : List Wr) (hp : ∀ w ∈ ps, w.1 < S.length ∧ w.2.length = 64) (j : Nat) (hj : j ≤ ps.length) : settleTo S ps (fun _ => 0) j = S := by
  induction j with
  | zero => rfl
  | succ j ih => rw [settleTo_succ, ih (by omega), put_none _ _ (hp _ (getD_mem_of_lt (by omega))).1]

/-- Of lost writes: how many bytes may still be torn ahead of the j-th. -/
def tornAt (keep : List Bool) (torn : Nat) : Nat → Nat
  | 0 => torn
  | j + 1 => if keep.getD j false then tornAt keep torn j else 0
theorem tornAt_zero (keep : List Bool) (torn : Nat) : tornAt keep torn 0 = torn := rfl
theorem tornAt_kept {keep : List Bool} {torn j : Nat} (h : keep.getD j false = true) : tornAt keep torn (j + 1) = tornAt keep torn j := by rw [tornAt, if_pos h]
theorem tornAt_lost {keep : List Bool} {torn j : Nat} (h : keep.getD j false = false) : tornAt keep torn (j + 1) = 0 := by rw [tornAt, h]; rfl
theorem tornAt_le (keep : List Bool) (torn : Nat) (j : Nat) : tornAt keep torn j ≤ torn := by
  induction j with
  | zero => exact Nat.le_refl _
  | succ j ih => rw [tornAt]; split <;> omega
/-- How many bytes of the j-th last. -/
def keptAt (keep : List Bool) (torn : Nat) (j : Nat) : Nat := if keep.getD j false then 64 else tornAt keep torn j
theorem keptAt_kept {keep : List Bool} {torn j : Nat} (h : keep.getD j false = true) : keptAt keep torn j = 64 := if_pos h
theorem keptAt_lost {keep : List Bool} {torn j : Nat} (h : keep.getD j false = false) : keptAt keep torn j = tornAt keep torn j := by rw [keptAt, h]; rfl
theorem keptAt_le (keep : List Bool) (torn : Nat) (ht : torn ≤ 64) (j : Nat) : keptAt keep torn j ≤ 64 := by
  rw [keptAt]; split; omega; have := tornAt_le keep torn j; omega
/-- 0 to 64. -/
def clamp (t : Int) : Nat := (min (max t 0) 64).toNat
theorem clamp_eq (t : Int) : ((clamp t : Nat) : Int) = min (max t 0) 64 := by unfold clamp; omega
theorem clamp_le (t : Int) : clamp t ≤ 64 := by unfold clamp; omega
theorem keptAt_nil (j : Nat) : keptAt [] 0 j = 0 := by
  have := tornAt_le [] 0 j
  rw [keptAt_lost (by simp [List.getD])]; omega

/-- 64 bytes, out of a text: its bytes again and again (none: bytes 0). -/
def sector (l : List UInt8) : List UInt8 := if l = [] then List.replicate 64 0 else (List.range 64).map fun i => l.getD (i % l.length) 0
theorem sector_nil : sector [] = List.replicate 64 0 := if_pos rfl
theorem sector_some {l : List UInt8} (h : l ≠ []) : sector l = (List.range 64).map fun i => l.getD (i % l.length) 0 := if_neg h
theorem length_sector (l : List UInt8) : (sector l).length = 64 := by rw [sector]; split <;> simp
/-- Its first j bytes; the others are still 0. -/
def sectorTo (l : List UInt8) (j : Nat) : List UInt8 := (List.range 64).map fun i => if i < j then l.getD (i % l.length) 0 else 0
theorem length_sectorTo (l : List UInt8) (j : Nat) : (sectorTo l j).length = 64 := by simp [sectorTo]
theorem sectorTo_zero (l : List UInt8) : sectorTo l 0 = List.replicate 64 0 := by
  simp only [sectorTo, Nat.not_lt_zero, if_false]; decide
theorem sectorTo_all {l : List UInt8} (h : l ≠ []) : sectorTo l 64 = sector l := by
  rw [sector_some h, sectorTo]
  apply List.map_congr_left
  intro i hi
  rw [if_pos (by simpa using hi)]
theorem sectorTo_succ (l : List UInt8) (j : Nat) (hj : j < 64) : sectorTo l (j + 1) = (sectorTo l j).set j (l.getD (j % l.length) 0) := by
  apply List.ext_getElem?
  intro i
  rw [List.getElem?_set]
  simp only [sectorTo, List.length_map, List.length_range, List.getElem?_map]
  by_cases e : j = i
  · subst e; simp [hj]
  · rw [if_neg e]
    by_cases hi : i < 64
    · simp only [List.getElem?_range hi, Option.map_some]
      congr 1
      by_cases h : i < j
      · rw [if_pos h, if_pos (by omega)]
      · rw [if_neg h, if_neg (by omega)]
    · rw [List.getElem?_eq_none (by simpa using hi)]; rfl
attribute [irreducible] sector sectorTo news newest zeroTo settleTo put readAt keptAt tornAt clamp
end Go.Proofs.YtmobjpandmdmdaaGreatDoor.Dk
