/- Several texts in one, in the order in which they build: DSpec Word Word2. -/
import Derived.WalkKit
import Derived.WalkSpells
import Derived.WalkLawsBesides
import Derived.Lib.Hide
import Derived.Deep.MidRow
import Derived.Laws.CopyOwn
import Derived.Deep.Draws
/- Disks, plainly: what lasts, what waits, which write is a sector's newest. No program is imported here. -/
namespace Go.Proofs.YtbljhodnpddpiaaGreatDoor.Dk

/-- A write that waits: where, what. -/
abbrev Wr := Nat × List UInt8
/-- Of each sector the number (from 1 on) of the last of the first k writes to it; 0: none. -/
def newest (n : Nat) (ps : List Wr) : Nat → List Nat
  | 0 => List.replicate n 0
  | k + 1 => (newest n ps k).set (ps.getD k (0, [])).1 (k + 1)
theorem newest_zero (n : Nat) (ps : List Wr) : newest n ps 0 = List.replicate n 0 := rfl
theorem newest_succ (n : Nat) (ps : List Wr) (k : Nat) : newest n ps (k + 1) = (newest n ps k).set (ps.getD k (0, [])).1 (k + 1) := rfl
theorem length_newest (n : Nat) (ps : List Wr) (k : Nat) : (newest n ps k).length = n := by
  induction k with
  | zero => simp [newest]
  | succ k ih => rw [newest, List.length_set, ih]
theorem newest_append (n : Nat) (ps qs : List Wr) (k : Nat) (h : k ≤ ps.length) : newest n (ps ++ qs) k = newest n ps k := by
  induction k with
  | zero => rfl
  | succ k ih =>
    have e : (ps ++ qs).getD k (0, []) = ps.getD k (0, []) := by
      rw [List.getD, List.getD, List.getElem?_append_left (by omega)]
    rw [newest, newest, ih (by omega), e]
def news (n : Nat) (ps : List Wr) : List Nat := newest n ps ps.length
theorem news_nil (n : Nat) : news n [] = List.replicate n 0 := rfl
theorem news_snoc (n : Nat) (ps : List Wr) (w : Wr) : news n (ps ++ [w]) = (news n ps).set w.1 (ps.length + 1) := by
  have e : (ps ++ [w]).getD ps.length (0, []) = w := by simp [List.getD]
  rw [news, List.length_append, List.length_singleton, newest_succ, newest_append n ps [w] ps.length (Nat.le_refl _), e]; rfl
theorem length_news (n : Nat) (ps : List Wr) : (news n ps).length = n := length_newest n ps _
theorem newest_le (n : Nat) (ps : List Wr) (k a : Nat) : (newest n ps k).getD a 0 ≤ k := by
  induction k with
  | zero =>
    rw [newest_zero, List.getD]
    rcases Nat.lt_or_ge a n with h | h
    · simp [h]
    · simp [List.getElem?_eq_none (l := List.replicate n 0) (i := a) (by simpa using h)]
  | succ k ih =>
    rw [newest_succ, List.getD, List.getElem?_set]
    split
    · split
      · simp
      · simp
    · have := ih; rw [List.getD] at this; omega
theorem newest_at (n : Nat) (ps : List Wr) (k a : Nat) (h : (newest n ps k).getD a 0 ≠ 0) : (ps.getD ((newest n ps k).getD a 0 - 1) (0, [])).1 = a := by
  induction k with
  | zero => exact absurd (Nat.le_zero.1 (newest_le n ps 0 a)) h
  | succ k ih =>
    by_cases e : (ps.getD k (0, [])).1 = a
    · by_cases hl : a < n
      · have hg : (newest n ps (k + 1)).getD a 0 = k + 1 := by
          rw [newest_succ, e, List.getD, List.getElem?_set_self (by rw [length_newest]; exact hl)]; rfl
        rw [hg, Nat.add_sub_cancel]; exact e
      · rw [List.getD, List.getElem?_eq_none (by rw [length_newest]; omega)] at h
        exact absurd rfl h
    · have hg : (newest n ps (k + 1)).getD a 0 = (newest n ps k).getD a 0 := by
        rw [newest_succ, List.getD, List.getElem?_set_ne e, ← List.getD]
      rw [hg] at h ⊢
      exact ih h

/-- What a sector reads as. -/
def readAt (S : List (List UInt8)) (ps : List Wr) (a : Nat) : List UInt8 :=
  if (news S.length ps).getD a 0 = 0 then S.getD a [] else (ps.getD ((news S.length ps).getD a 0 - 1) (0, [])).2
theorem readAt_old {S : List (List UInt8)} {ps : List Wr} {a : Nat} (h : (news S.length ps).getD a 0 = 0) : readAt S ps a = S.getD a [] := if_pos h
theorem readAt_new {S : List (List UInt8)} {ps : List Wr} {a m : Nat} (h : (news S.length ps).getD a 0 = m + 1) : readAt S ps a = (ps.getD m (0, [])).2 := by
  rw [readAt, if_neg (by omega), h]; rfl
theorem readAt_nil (S : List (List UInt8)) (a : Nat) : readAt S [] a = S.getD a [] := by
  apply readAt_old
  exact Nat.le_zero.1 (newest_le S.length [] 0 a)
theorem readAt_snoc (S : List (List UInt8)) (ps : List Wr) (w : Wr) (a : Nat) (hw : w.1 < S.length) : readAt S (ps ++ [w]) a = if a = w.1 then w.2 else readAt S ps a := by
  by_cases e : a = w.1
  · rw [if_pos e, readAt_new (m := ps.length)]
    · simp [List.getD]
    · rw [news_snoc, List.getD, e, List.getElem?_set_self (by rw [length_news]; exact hw)]; rfl
  · rw [if_neg e]
    have e1 : (news S.length (ps ++ [w])).getD a 0 = (news S.length ps).getD a 0 := by
      rw [news_snoc, List.getD, List.getElem?_set_ne (fun h => e h.symm), ← List.getD]
    rw [readAt, readAt, e1]
    have := newest_le S.length ps ps.length a
    by_cases hz : (news S.length ps).getD a 0 = 0
    · rw [if_pos hz, if_pos hz]
    · rw [if_neg hz, if_neg hz, List.getD, List.getElem?_append_left (by unfold news at *; omega), ← List.getD]

/-- One write settled: its first 'k' bytes last. -/
def put (S : List (List UInt8)) (w : Wr) (k : Nat) : List (List UInt8) := S.set w.1 (w.2.take k ++ (S.getD w.1 []).drop k)
theorem put_eq (S : List (List UInt8)) (w : Wr) (k : Nat) : put S w k = S.set w.1 (w.2.take k ++ (S.getD w.1 []).drop k) := rfl
theorem length_put (S : List (List UInt8)) (w : Wr) (k : Nat) : (put S w k).length = S.length := List.length_set
/-- The first j writes settled, each as far as 'kept' says. -/
def settleTo (S : List (List UInt8)) (ps : List Wr) (kept : Nat → Nat) : Nat → List (List UInt8)
  | 0 => S
  | j + 1 => put (settleTo S ps kept j) (ps.getD j (0, [])) (kept j)
theorem settleTo_zero (S : List (List UInt8)) (ps : List Wr) (kept : Nat → Nat) : settleTo S ps kept 0 = S := rfl
theorem settleTo_succ (S : List (List UInt8)) (ps : List Wr) (kept : Nat → Nat) (j : Nat) : settleTo S ps kept (j + 1) = put (settleTo S ps kept j) (ps.getD j (0, [])) (kept j) := rfl
theorem length_settleTo (S : List (List UInt8)) (ps : List Wr) (kept : Nat → Nat) (j : Nat) : (settleTo S ps kept j).length = S.length := by
  induction j with
  | zero => rfl
  | succ j ih => rw [settleTo_succ, length_put, ih]
theorem put_wide {S : List (List UInt8)} {w : Wr} (k : Nat) (hS : ∀ s ∈ S, s.length = 64) (hw : w.2.length = 64) (hw1 : w.1 < S.length) : ∀ s ∈ put S w k, s.length = 64 := by
  intro s hs
  rcases List.mem_or_eq_of_mem_set hs with h | h
  · exact hS s h
  · rw [h, List.length_append, List.length_take, List.length_drop, List.getD, List.getElem?_eq_getElem hw1]
    have := hS S[w.1] (List.getElem_mem _)
    simp only [Option.getD_some]
    omega
theorem getD_mem_of_lt {ps : List Wr} {j : Nat} (h : j < ps.length) : ps.getD j (0, []) ∈ ps := by
  rw [List.getD, List.getElem?_eq_getElem h]; exact List.getElem_mem _
theorem settleTo_wide {S : List (List UInt8)} {ps : List Wr} (kept : Nat → Nat) (hS : ∀ s ∈ S, s.length = 64) (hp : ∀ w ∈ ps, w.1 < S.length ∧ w.2.length = 64) (j : Nat) (hj : j ≤ ps.length) : ∀ s ∈ settleTo S ps kept j, s.length = 64 := by
  induction j with
  | zero => exact hS
  | succ j ih =>
    have hm := hp _ (getD_mem_of_lt (by omega : j < ps.length))
    exact put_wide _ (ih (by omega)) hm.2 (by rw [length_settleTo]; exact hm.1)

/-- The numbers, where those of the first j writes are struck out. -/
def zeroTo (nw : List Nat) (ps : List Wr) : Nat → List Nat
  | 0 => nw
  | j + 1 => (zeroTo nw ps j).set (ps.getD j (0, [])).1 0
theorem zeroTo_zero (nw : List Nat) (ps : List Wr) : zeroTo nw ps 0 = nw := rfl
theorem zeroTo_succ (nw : List Nat) (ps : List Wr) (j : Nat) : zeroTo nw ps (j + 1) = (zeroTo nw ps j).set (ps.getD j (0, [])).1 0 := rfl
theorem length_zeroTo (nw : List Nat) (ps : List Wr) (j : Nat) : (zeroTo nw ps j).length = nw.length := by
  induction j with
  | zero => rfl
  | succ j ih => rw [zeroTo_succ, List.length_set, ih]
theorem zeroTo_at (nw : List Nat) (ps : List Wr) (j a : Nat) : (zeroTo nw ps j).getD a 0 = if (∃ i, i < j ∧ (ps.getD i (0, [])).1 = a) then 0 else nw.getD a 0 := by
  induction j with
  | zero => simp [zeroTo_zero]
  | succ j ih =>
    by_cases e : (ps.getD j (0, [])).1 = a
    · have hx : ∃ i, i < j + 1 ∧ (ps.getD i (0, [])).1 = a := ⟨j, by omega, e⟩
      rw [if_pos hx, zeroTo_succ, List.getD, List.getElem?_set, if_pos e]
      split <;> rfl
    · rw [zeroTo_succ, List.getD, List.getElem?_set_ne e, ← List.getD, ih]
      by_cases h : ∃ i, i < j ∧ (ps.getD i (0, [])).1 = a
      · obtain ⟨i, h1, h2⟩ := h
        rw [if_pos ⟨i, h1, h2⟩, if_pos ⟨i, by omega, h2⟩]
      · rw [if_neg h, if_neg]
        rintro ⟨i, h1, h2⟩
        by_cases hij : i = j
        · subst hij; exact e h2
        · exact h ⟨i, by omega, h2⟩
theorem zeroTo_all (n : Nat) (ps : List Wr) : zeroTo (news n ps) ps ps.length = List.replicate n 0 := by
  apply List.ext_getElem?
  intro a
  rcases Nat.lt_or_ge a n with h | h
  · have e := zeroTo_at (news n ps) ps ps.length a
    have hz : (zeroTo (news n ps) ps ps.length).getD a 0 = 0 := by
      rw [e]
      split
      · rfl
      · rename_i hn
        by_cases h0 : (news n ps).getD a 0 = 0
        · exact h0
        · exact absurd ⟨(news n ps).getD a 0 - 1, by have := newest_le n ps ps.length a; unfold news at *; omega, newest_at n ps ps.length a h0⟩ hn
    have hl : a < (zeroTo (news n ps) ps ps.length).length := by rw [length_zeroTo, length_news]; exact h
    rw [List.getD, List.getElem?_eq_getElem hl] at hz
    rw [List.getElem?_eq_getElem hl]
    simp only [Option.getD_some] at hz
    simp [hz, h]
  · rw [List.getElem?_eq_none (by rw [length_zeroTo, length_news]; exact h), List.getElem?_eq_none (by simpa using h)]

/-! What flushing and losing come to. -/
theorem put_at (S : List (List UInt8)) (w : Wr) (k a : Nat) (hw : w.1 < S.length) : (put S w k).getD a [] = if a = w.1 then w.2.take k ++ (S.getD w.1 []).drop k else S.getD a [] := by
  rw [put, List.getD, List.getElem?_set]
  by_cases e : a = w.1
  · rw [if_pos e.symm, if_pos (by omega), if_pos e]; rfl
  · rw [if_neg (fun h => e h.symm), if_neg e]; rfl
theorem flushed_at (S : List (List UInt8)) (ps : List Wr) (hS : ∀ s ∈ S, s.length = 64) (hp : ∀ w ∈ ps, w.1 < S.length ∧ w.2.length = 64) (j : Nat) (hj : j ≤ ps.length) (a : Nat) :
    (settleTo S ps (fun _ => 64) j).getD a [] = readAt S (ps.take j) a := by
  induction j with
  | zero => rw [settleTo_zero, List.take_zero, readAt_nil]
  | succ j ih =>
    have hlt : j < ps.length := by omega
    have hm := hp _ (getD_mem_of_lt hlt)
    have e : ps.take (j + 1) = ps.take j ++ [ps.getD j (0, [])] := by
      rw [List.take_succ_eq_append_getElem hlt, List.getD, List.getElem?_eq_getElem hlt]; rfl
    have hw := settleTo_wide (fun _ => 64) hS hp j (by omega)
    rw [settleTo_succ, put_at _ _ _ _ (by rw [length_settleTo]; exact hm.1), e, readAt_snoc _ _ _ _ hm.1]
    by_cases ha' : a = (ps.getD j (0, [])).1
    · rw [if_pos ha', if_pos ha', List.take_of_length_le (by omega), List.drop_eq_nil_of_le, List.append_nil]
      have hl : (ps.getD j (0, [])).1 < (settleTo S ps (fun _ => 64) j).length := by rw [length_settleTo]; exact hm.1
      have := hw _ (List.getElem_mem hl)
      rw [List.getD, List.getElem?_eq_getElem hl]; simp only [Option.getD_some]; omega
    · rw [if_neg ha', if_neg ha', ih (by omega)]
theorem put_none (S : List (List UInt8)) (w : Wr) (hw : w.1 < S.length) : put S w 0 = S := by
  apply List.ext_getElem?
  intro a
  rw [put, List.getElem?_set]
  split
  · rename_i e
    subst e
    simp [hw, List.getD]
  · rfl
theorem settleTo_none (S : List (List UInt8)) (ps : List Wr) (hp : ∀ w ∈ ps, w.1 < S.length ∧ w.2.length = 64) (j : Nat) (hj : j ≤ ps.length) : settleTo S ps (fun _ => 0) j = S := by
  induction j with
  | zero => rfl
  | succ j ih => rw [settleTo_succ, ih (by omega), put_none _ _ (hp _ (getD_mem_of_lt (by omega))).1]

/-- Of lost writes: how many bytes may still be torn ahead of the j-th. -/
def tornAt (keep : List Bool) (torn : Nat) : Nat → Nat
  | 0 => torn
  | j + 1 => if keep.getD j false then tornAt keep torn j else 0
theorem tornAt_zero (keep : List Bool) (torn : Nat) : tornAt keep torn 0 = torn := rfl
theorem tornAt_kept {keep : List Bool} {torn j : Nat} (h : keep.getD j false = true) : tornAt keep torn (j + 1) = tornAt keep torn j := by rw [tornAt, if_pos h]
theorem tornAt_lost {keep : List Bool} {torn j : Nat} (h : keep.getD j false = false) : tornAt keep torn (j + 1) = 0 := by rw [tornAt, h]; rfl
theorem tornAt_le (keep : List Bool) (torn : Nat) (j : Nat) : tornAt keep torn j ≤ torn := by
  induction j with
  | zero => exact Nat.le_refl _
  | succ j ih => rw [tornAt]; split <;> omega
/-- How many bytes of the j-th last. -/
def keptAt (keep : List Bool) (torn : Nat) (j : Nat) : Nat := if keep.getD j false then 64 else tornAt keep torn j
theorem keptAt_kept {keep : List Bool} {torn j : Nat} (h : keep.getD j false = true) : keptAt keep torn j = 64 := if_pos h
theorem keptAt_lost {keep : List Bool} {torn j : Nat} (h : keep.getD j false = false) : keptAt keep torn j = tornAt keep torn j := by rw [keptAt, h]; rfl
theorem keptAt_le (keep : List Bool) (torn : Nat) (ht : torn ≤ 64) (j : Nat) : keptAt keep torn j ≤ 64 := by
  rw [keptAt]; split; omega; have := tornAt_le keep torn j; omega
/-- 0 to 64. -/
def clamp (t : Int) : Nat := (min (max t 0) 64).toNat
theorem clamp_eq (t : Int) : ((clamp t : Nat) : Int) = min (max t 0) 64 := by unfold clamp; omega
theorem clamp_le (t : Int) : clamp t ≤ 64 := by unfold clamp; omega
theorem keptAt_nil (j : Nat) : keptAt [] 0 j = 0 := by
  have := tornAt_le [] 0 j
  rw [keptAt_lost (by simp [List.getD])]; omega

/-- 64 bytes, out of a text: its bytes again and again (none: bytes 0). -/
def sector (l : List UInt8) : List UInt8 := if l = [] then List.replicate 64 0 else (List.range 64).map fun i => l.getD (i % l.length) 0
theorem sector_nil : sector [] = List.replicate 64 0 := if_pos rfl
theorem sector_some {l : List UInt8} (h : l ≠ []) : sector l = (List.range 64).map fun i => l.getD (i % l.length) 0 := if_neg h
theorem length_sector (l : List UInt8) : (sector l).length = 64 := by rw [sector]; split <;> simp
/-- Its first j bytes; the others are still 0. -/
def sectorTo (l : List UInt8) (j : Nat) : List UInt8 := (List.range 64).map fun i => if i < j then l.getD (i % l.length) 0 else 0
theorem length_sectorTo (l : List UInt8) (j : Nat) : (sectorTo l j).length = 64 := by simp [sectorTo]
theorem sectorTo_zero (l : List UInt8) : sectorTo l 0 = List.replicate 64 0 := by
  simp only [sectorTo, Nat.not_lt_zero, if_false]; decide
theorem sectorTo_all {l : List UInt8} (h : l ≠ []) : sectorTo l 64 = sector l := by
  rw [sector_some h, sectorTo]
  apply List.map_congr_left
  intro i hi
  rw [if_pos (by simpa using hi)]
theorem sectorTo_succ (l : List UInt8) (j : Nat) (hj : j < 64) : sectorTo l (j + 1) = (sectorTo l j).set j (l.getD (j % l.length) 0) := by
  apply List.ext_getElem?
  intro i
  rw [List.getElem?_set]
  simp only [sectorTo, List.length_map, List.length_range, List.getElem?_map]
  by_cases e : j = i
  · subst e; simp [hj]
  · rw [if_neg e]
    by_cases hi : i < 64
    · simp only [List.getElem?_range hi, Option.map_some]
      congr 1
      by_cases h : i < j
      · rw [if_pos h, if_pos (by omega)]
      · rw [if_neg h, if_neg (by omega)]
    · rw [List.getElem?_eq_none (by simpa using hi)]; rfl
attribute [irreducible] sector sectorTo news newest zeroTo settleTo put readAt keptAt tornAt clamp
end Go.Proofs.YtbljhodnpddpiaaGreatDoor.Dk

/- Words and worlds: small laws on UInt32, on the model's bit operations, and on blocks that are known whole. No program is imported here. -/
namespace Go.Proofs.YtbljhodnpddpiaaGreatDoor
open Go.RowKit

def u32v (x : UInt32) : Value := .int .u32 (x.toNat : Int)
def u8v (x : UInt8) : Value := .int .u8 (x.toNat : Int)

theorem ret_int {k : IntKind} {a b : Int} (h : a = b) : Ending.returned (.int k a) = .returned (.int k b) := by rw [h]
theorem int_eq_u32v {a : Int} {x : UInt32} (h : a = (x.toNat : Int)) : Value.int .u32 a = u32v x := by rw [h]; rfl
theorem int_eq_u8v {a : Int} {x : UInt8} (h : a = (x.toNat : Int)) : Value.int .u8 a = u8v x := by rw [h]; rfl

theorem u32_lt (x : UInt32) : x.toNat < 4294967296 := x.toNat_lt
theorem u8_lt (x : UInt8) : x.toNat < 256 := x.toNat_lt

theorem fold_add (a b : UInt32) : IntKind.u32.wrap ((a.toNat : Int) + (b.toNat : Int)) = ((a + b).toNat : Int) := by
  rw [IntKind.wrap_u32', UInt32.toNat_add]; omega
theorem fold_xor (a b : UInt32) : bits .xor .u32 (a.toNat : Int) (b.toNat : Int) = ((a ^^^ b).toNat : Int) := by
  rw [u32_xor_nat _ _ (u32_lt a) (u32_lt b), UInt32.toNat_xor]
theorem fold_and (a b : UInt32) : bits .and .u32 (a.toNat : Int) (b.toNat : Int) = ((a &&& b).toNat : Int) := by
  rw [u32_and_nat _ _ (u32_lt a) (u32_lt b), UInt32.toNat_and]
theorem fold_or (a b : UInt32) : bits .or .u32 (a.toNat : Int) (b.toNat : Int) = ((a ||| b).toNat : Int) := by
  rw [u32_or_nat _ _ (u32_lt a) (u32_lt b), UInt32.toNat_or]
theorem fold_not (a : UInt32) : bits .xor .u32 4294967295 (a.toNat : Int) = ((~~~a).toNat : Int) := by
  have h := fold_xor 4294967295 a
  rw [show ((4294967295 : UInt32).toNat : Int) = 4294967295 from rfl] at h
  rw [h]
  congr 2
theorem fold_ofNat (n : Nat) : ((n : Int) % 4294967296) = ((UInt32.ofNat n).toNat : Int) := by
  rw [UInt32.toNat_ofNat']; omega

/-! Blocks that are known whole. -/
theorem cell_of_list {w : World} {g : Nat} {cs : List Value} {t : TypeId} {fr : Nat × Nat} (h : w.heap[g]? = some (.cells cs.toArray t fr)) (j : Nat) : w.cell? ⟨g, j, none⟩ = cs[j]? := by
  rw [cell_of_row w g j _ t fr h]; simp
theorem free_of_list {w : World} {g : Nat} {cs : List Value} {t : TypeId} (h : w.heap[g]? = some (.cells cs.toArray t (0, 0))) (j : Nat) : w.frozen? ⟨g, j, none⟩ = false :=
  frozen_of_row w g j _ t h
theorem set_list {w : World} {g : Nat} {cs : List Value} {t : TypeId} (h : w.heap[g]? = some (.cells cs.toArray t (0, 0))) (i : Nat) (v : Value) :
    (w.setCell ⟨g, i, none⟩ v).heap[g]? = some (.cells (cs.set i v).toArray t (0, 0)) := by
  rw [heap_setCell_same w g i _ t v h]; simp
theorem lt_of_heap {w : World} {g : Nat} {o : Obj} (h : w.heap[g]? = some o) : g < w.heap.size := (Array.getElem?_eq_some_iff.1 h).1

/-- The list with 'vs' from place 'o' on. -/
def laid (cs : List Value) : Nat → List Value → List Value
  | _, [] => cs
  | o, v :: r => laid (cs.set o v) (o + 1) r
theorem length_laid (vs : List Value) : ∀ (o : Nat) (cs : List Value), (laid cs o vs).length = cs.length := by
  induction vs with
  | nil => intro o cs; rfl
  | cons v r ih => intro o cs; rw [laid, ih, List.length_set]
theorem laid_get_out (vs : List Value) : ∀ (o : Nat) (cs : List Value) (j : Nat), (j < o ∨ o + vs.length ≤ j) → (laid cs o vs)[j]? = cs[j]? := by
  induction vs with
  | nil => intro o cs j _; rfl
  | cons v r ih =>
    intro o cs j h
    rw [laid, ih _ _ _ (by simp at h; omega), List.getElem?_set_ne (by simp at h; omega)]
theorem laid_get_in (vs : List Value) : ∀ (o : Nat) (cs : List Value) (j : Nat), o + vs.length ≤ cs.length → j < vs.length → (laid cs o vs)[o + j]? = vs[j]? := by
  induction vs with
  | nil => intro o cs j _ h; simp at h
  | cons v r ih =>
    intro o cs j hl h
    simp only [List.length_cons] at hl h
    cases j with
    | zero => rw [laid, laid_get_out _ _ _ _ (by omega), Nat.add_zero, List.getElem?_set_self (by omega)]; rfl
    | succ j =>
      have := ih (o + 1) (cs.set o v) j (by simp; omega) (by omega)
      rw [laid, show o + (j + 1) = o + 1 + j from by omega, this]; rfl
theorem laid_whole (cs vs : List Value) (h : vs.length = cs.length) : laid cs 0 vs = vs := by
  apply List.ext_getElem?
  intro j
  by_cases hj : j < vs.length
  · have := laid_get_in vs 0 cs j (by omega) hj
    simpa using this
  · rw [List.getElem?_eq_none (by rw [length_laid]; omega), List.getElem?_eq_none (by omega)]
theorem setCells_list {g : Nat} {t : TypeId} (vs : List Value) : ∀ (o : Nat) (cs : List Value) (w : World), w.heap[g]? = some (.cells cs.toArray t (0, 0)) →
    (w.setCells g o vs).heap[g]? = some (.cells (laid cs o vs).toArray t (0, 0)) := by
  induction vs with
  | nil => intro o cs w h; exact h
  | cons v r ih => intro o cs w h; exact ih (o + 1) _ _ (set_list h o v)
theorem setCells_other {g k : Nat} (hk : k ≠ g) (vs : List Value) : ∀ (o : Nat) (w : World), (w.setCells g o vs).heap[k]? = w.heap[k]? := by
  induction vs with
  | nil => intro o w; rfl
  | cons v r ih => intro o w; rw [World.setCells, ih, heap_setCell_other _ _ _ _ hk]
theorem setCells_size {g : Nat} (vs : List Value) : ∀ (o : Nat) (w : World), (w.setCells g o vs).heap.size = w.heap.size := by
  induction vs with
  | nil => intro o w; rfl
  | cons v r ih => intro o w; rw [World.setCells, ih]; simp [World.setCell]
theorem range_of_list {w : World} {g : Nat} {cs : List Value} {t : TypeId} {fr : Nat × Nat} (h : w.heap[g]? = some (.cells cs.toArray t fr)) : w.rangeAt g 0 cs := fun j v hv => by
  rw [cell_of_list h]; simpa using hv
theorem there_of_list {w : World} {g : Nat} {cs : List Value} {t : TypeId} {o n : Nat} (h : w.heap[g]? = some (.cells cs.toArray t (0, 0))) (hn : o + n ≤ cs.length) : w.there g o n := fun j hj =>
  ⟨by rw [cell_of_list h, List.getElem?_eq_getElem (by omega)]; rfl, free_of_list h _⟩

/-- From w to w': of the blocks below B only those of 'ws' may have changed. -/
structure Kept (B : Nat) (ws : List Nat) (w w' : World) : Prop where
  os : w'.os = w.os
  tape : w'.tape = w.tape
  output : w'.output = w.output
  size : w.heap.size ≤ w'.heap.size
  block : ∀ k, k < B → k ∉ ws → w'.heap[k]? = w.heap[k]?
theorem Kept.refl (B : Nat) (ws : List Nat) (w : World) : Kept B ws w w := ⟨rfl, rfl, rfl, Nat.le_refl _, fun _ _ _ => rfl⟩
theorem Kept.trans {B : Nat} {ws : List Nat} {a b c : World} (h : Kept B ws a b) (k : Kept B ws b c) : Kept B ws a c :=
  ⟨k.os.trans h.os, k.tape.trans h.tape, k.output.trans h.output, Nat.le_trans h.size k.size, fun i hi hn => (k.block i hi hn).trans (h.block i hi hn)⟩
theorem Kept.mono {B B' : Nat} {ws ws' : List Nat} {a b : World} (h : Kept B' ws' a b) (hB : B ≤ B') (hw : ∀ k, k < B → k ∈ ws' → k ∈ ws) : Kept B ws a b :=
  ⟨h.os, h.tape, h.output, h.size, fun i hi hn => h.block i (by omega) (fun hm => hn (hw i hi hm))⟩
theorem Kept.drew {B : Nat} {ws : List Nat} {a w : World} (h : Kept B ws a w) : Kept B ws a w.drew := ⟨h.os, h.tape, h.output, h.size, h.block⟩
theorem Kept.alloc {B : Nat} {ws : List Nat} {a w : World} (h : Kept B ws a w) (hB : B ≤ w.heap.size) (o : Obj) : Kept B ws a (w.alloc o) := by
  have := (Below.refl B w).alloc hB o
  exact ⟨this.os.trans h.os, this.tape.trans h.tape, this.output.trans h.output, Nat.le_trans h.size this.size, fun i hi hn => (this.block i hi).trans (h.block i hi hn)⟩
theorem Kept.setCell {B : Nat} {ws : List Nat} {a w : World} (h : Kept B ws a w) {p : Addr} (hp : p.block ∈ ws ∨ B ≤ p.block) (v : Value) : Kept B ws a (w.setCell p v) :=
  ⟨h.os, h.tape, h.output, by rw [World.setCell]; simpa using h.size, fun i hi hn => by
    rw [heap_setCell_other _ _ _ _ (fun e => by rcases hp with hp | hp; · exact hn (e ▸ hp)
                                                · omega)]
    exact h.block i hi hn⟩
theorem Kept.setCells {B : Nat} {ws : List Nat} {g : Nat} (hp : g ∈ ws ∨ B ≤ g) (vs : List Value) : ∀ {a w : World} (_ : Kept B ws a w) (o : Nat), Kept B ws a (w.setCells g o vs) := by
  induction vs with
  | nil => intro a w h o; exact h
  | cons v r ih => intro a w h o; exact ih (h.setCell (p := ⟨g, o, none⟩) hp v) (o + 1)
theorem Kept.of_below {B : Nat} {ws : List Nat} {a b : World} (h : Below B a b) : Kept B ws a b := ⟨h.os, h.tape, h.output, h.size, fun i hi _ => h.block i hi⟩
theorem Kept.below {B : Nat} {ws : List Nat} {a b : World} (h : Kept B ws a b) (hw : ∀ k ∈ ws, B ≤ k) : Below B a b :=
  ⟨h.os, h.tape, h.output, h.size, fun i hi => h.block i hi (fun hm => by have := hw i hm; omega)⟩
theorem Kept.cell {B : Nat} {ws : List Nat} {a b : World} (h : Kept B ws a b) {p : Addr} (hp : p.block < B) (hn : p.block ∉ ws) : b.cell? p = a.cell? p := World.cell?_of_block (w := a) (h.block p.block hp hn)
theorem Kept.heap {B : Nat} {ws : List Nat} {a b : World} (h : Kept B ws a b) {g : Nat} {o : Obj} (hg : a.heap[g]? = some o) (hB : g < B) (hn : g ∉ ws) : b.heap[g]? = some o := (h.block g hB hn).trans hg
theorem below_drewN {B : Nat} {a w : World} (h : Below B a w) (n : Nat) : Below B a (w.drewN n) := ⟨h.os, h.tape, h.output, h.size, h.block⟩
theorem below_setCells {B : Nat} {a w : World} (h : Below B a w) {g : Nat} (hg : B ≤ g) (o : Nat) (vs : List Value) : Below B a (w.setCells g o vs) :=
  (Kept.setCells (ws := []) (Or.inr hg) vs (Kept.of_below h) o).below (by simp)

/-- The result that lies in a cell's place: the cells. -/
theorem results_mid {P : Program} {fn : Func} {p : Tmp} {ty : TypeId} (h : fn.results = #[.cell p ty]) (tmps : Array Value) (w : World) (g o : Nat) (cs : List Value) (d : TypeDesc)
    (hp : tmps.getD p undef = .pointer (some ⟨g, o, none⟩)) (hc : w.rangeAt g o cs)
    (hu : P.underlying ty = some d) (hd : d.isRow = true) (hi : (P.info? ty).map (·.size) = some cs.length) :
    (results fn tmps).run P w = .ok (.agg cs.toArray) w := by
  have hp' : tmps[p]?.getD undef = .pointer (some ⟨g, o, none⟩) := by simpa using hp
  simp [results, h, hp', asAddr, run_loadVar_mid w g o ty cs d hc hu hd hi]
theorem u32v_one (ws : List UInt32) : (ws.map u32v).toArray.all (·.oneCell') = true :=
  all_oneCell_toArray fun v hv => by obtain ⟨x, _, rfl⟩ := List.mem_map.1 hv; rfl
theorem u8v_one (ws : List UInt8) : (ws.map u8v).toArray.all (·.oneCell') = true :=
  all_oneCell_toArray fun v hv => by obtain ⟨x, _, rfl⟩ := List.mem_map.1 hv; rfl
theorem getD_cell {w : World} {g : Nat} {ws : List UInt32} {T : TypeId} {n i : Nat} (hn : ws.length = n) (hi : i < n) (hW : w.heap[g]? = some (.cells (ws.map u32v).toArray T (0, 0))) : w.cell? ⟨g, i, none⟩ = some (u32v (ws.getD i 0)) := by
  rw [cell_of_list hW, List.getElem?_map, List.getD, List.getElem?_eq_getElem (by omega)]; rfl

/-- An operation whose run is known. -/
theorem wpList_run {P : Program} {w : World} {ops : Array Oper} {rest : List Oper} {o : Oper} {a : Act} {Q : Exit → Act → World → Prop} (hgd : o.guard = none) (v : Value) (w' : World)
    (hrun : (execOp a.eval o).run P w = .ok (.value v) w') (h : wpList P ops Q rest (a.put o.dst v) w') : wpList P ops Q (o :: rest) a w := by
  refine wpList_plain hgd fun K hK => ?_
  unfold Oper.wp
  rw [hrun]
  exact hK _ _ h
theorem wpList_alloc {P : Program} {w : World} {ops : Array Oper} {rest : List Oper} {o : Oper} {a : Act} {Q : Exit → Act → World → Prop} (hgd : o.guard = none) (T : TypeId) (ho : o.op = .alloc T) (zs : List Value)
    (hz : ∀ w : World, (Instr.alloc T true (.tuple #[])).run P w = .ok (.pointer (some ⟨w.heap.size, 0, none⟩)) (w.alloc (.cells zs.toArray T)))
    (h : wpList P ops Q rest (a.put o.dst (.pointer (some ⟨w.heap.size, 0, none⟩))) (w.alloc (.cells zs.toArray T))) : wpList P ops Q (o :: rest) a w := by
  refine wpList_run hgd _ _ ?_ h
  unfold execOp
  simp only [ho, Sem.run_bind, hz, Result.andThen_ok]
  rfl
theorem wpList_build {P : Program} {w : World} {ops : Array Oper} {rest : List Oper} {o : Oper} {a : Act} {Q : Exit → Act → World → Prop} (hgd : o.guard = none) (T : TypeId) (parts : Array (Nat × Operand)) (ho : o.op = .build T parts) (cs : List Value)
    (hz : (Instr.build T (parts.map fun (i, x) => (i, a.eval x))).run P w = .ok (.agg cs.toArray) w)
    (h : wpList P ops Q rest (a.put o.dst (.agg cs.toArray)) w) : wpList P ops Q (o :: rest) a w := by
  refine wpList_run hgd _ _ ?_ h
  unfold execOp
  simp only [ho, Sem.run_bind, hz, Result.andThen_ok]
  rfl
theorem run_index_agg {P : Program} (w : World) (T elem n : TypeId) (cs : List Value) (k : Nat) (v : Value) (d : TypeDesc) (hu : P.underlying T = some (.array n elem)) (hk : k < n) (hsz : (P.info? elem).map (·.size) = some 1)
    (hd : P.underlying elem = some d) (hdn : d.isRow = false) (hv : cs[k]? = some v) : (Instr.index T (.agg cs.toArray) (.int .i64 k)).run P w = .ok v w := by
  cases hq : P.info? elem with
  | none => simp [hq] at hsz
  | some i =>
    have hi : i.size = 1 := by simpa [hq] using hsz
    have hagg : (isAgg elem).run P w = .ok false w := by
      unfold isAgg
      rw [Sem.run_bind, run_underlying hd w]
      cases d <;> simp_all
    simp [Instr.index, asIntOf, Sem.run_bind, run_underlying hu, sizeOf, typeInfo, hq, hi, part, hagg, hv]
    omega
theorem wpList_index_agg {P : Program} {w : World} {ops : Array Oper} {rest : List Oper} {o : Oper} {a : Act} {Q : Exit → Act → World → Prop} (hgd : o.guard = none) (T : TypeId) (x y : Operand) (ho : o.op = .index T x y)
    (elem n : TypeId) (cs : List Value) (k : Nat) (v : Value) (d : TypeDesc) (hx : a.eval x = .agg cs.toArray) (hy : a.eval y = .int .i64 k) (hu : P.underlying T = some (.array n elem)) (hk : k < n) (hsz : (P.info? elem).map (·.size) = some 1)
    (hd : P.underlying elem = some d) (hdn : d.isRow = false) (hv : cs[k]? = some v)
    (h : wpList P ops Q rest (a.put o.dst v) w) : wpList P ops Q (o :: rest) a w := by
  refine wpList_run hgd _ _ ?_ h
  unfold execOp
  simp only [ho, hx, hy, Sem.run_bind, run_index_agg w T elem n cs k v d hu hk hsz hd hdn hv, Result.andThen_ok]
  rfl
theorem laid_snoc (vs : List Value) (v : Value) : ∀ (cs : List Value) (o : Nat), laid cs o (vs ++ [v]) = (laid cs o vs).set (o + vs.length) v := by
  induction vs with
  | nil => intro cs o; rfl
  | cons u r ih => intro cs o; simp only [List.cons_append, laid, ih, List.length_cons]; congr 1; omega
theorem wpList_store_new {P : Program} {w : World} {ops : Array Oper} {rest : List Oper} {op : Oper} {a : Act} {Q : Exit → Act → World → Prop} (hgd : op.guard = none) (ty : TypeId) (x y : Operand) (ho : op.op = .store ty x y)
    (b : Nat) (cells olds : List Value) (t : TypeId) (hx : a.eval x = .pointer (some ⟨b, 0, none⟩)) (hy : a.eval y = .agg cells.toArray)
    (hb : w.heap[b]? = some (.cells olds.toArray t (0, 0))) (hn : cells.length = olds.length) (hi : (P.info? ty).map (·.size) = some cells.length) (h1 : ∀ v ∈ cells, v.oneCell' = true)
    (h : wpList P ops Q rest (a.put op.dst undef) (w.setCells b 0 cells)) : wpList P ops Q (op :: rest) a w :=
  wpList_store_mid hgd ty x y ho b 0 cells.toArray hx hy (there_of_list hb (by simp [hn])) (by simpa using hi) (all_oneCell_toArray h1) h
theorem u32_ones (ws : List UInt32) : ∀ v ∈ ws.map u32v, v.oneCell' = true := fun v hv => by obtain ⟨x, _, rfl⟩ := List.mem_map.1 hv; rfl

/-! 'copy' into cells that are there. -/
theorem size_toList (s : ByteArray) : s.data.toList.length = s.size := Array.length_toList
/-- The first n bytes of a string, as cells. -/
def strCells (s : ByteArray) (n : Nat) : List Value := (s.data.toList.take n).map u8v
theorem length_strCells (s : ByteArray) (n : Nat) (h : n ≤ s.size) : (strCells s n).length = n := by
  rw [strCells, List.length_map, List.length_take, size_toList]; omega
theorem run_copy_str {P : Program} (w : World) (dT sT ty elem : TypeId) (b o dLen dCap : Nat) (s : ByteArray)
    (hu : P.underlying dT = some (.slice elem)) (hz : (P.info? elem).map (·.size) = some 1) (ht : w.there b o (Nat.min s.size dLen)) :
    (Builtin.copy_ #[dT, sT] ty #[.slice (some ⟨b, o, none⟩) dLen dCap, .string s]).run P w = .ok (goInt (Nat.min s.size dLen)) (w.setCells b o (strCells s (Nat.min s.size dLen))) := by
  have hl := length_strCells s (Nat.min s.size dLen) (Nat.min_le_left _ _)
  have hst := run_storeCells_cells (P := P) b o (strCells s (Nat.min s.size dLen)) 0 w
    (by rw [hl]; intro j hj; simpa using (ht j hj).1) (by rw [hl]; intro j hj; simpa using (ht j hj).2)
    (by intro v hv; obtain ⟨x, _, rfl⟩ := List.mem_map.1 hv; rfl)
  cases hq : P.info? elem with
  | none => simp [hq] at hz
  | some i =>
    have he : List.take (Nat.min s.size dLen) (List.map (fun x => Value.int IntKind.u8 (x.toNat : Int)) s.data.toList) = strCells s (Nat.min s.size dLen) := by
      rw [strCells, List.map_take]; rfl
    simp only [Nat.add_zero] at hst
    simp [Builtin.copy_, run_underlying hu, Builtin.lenOf, Builtin.firstCells, sizeOf, typeInfo, hq]
    rw [he, hst]
    rfl
theorem wpList_copy_str {P : Program} {w : World} {ops : Array Oper} {rest : List Oper} {o : Oper} {a : Act} {Q : Exit → Act → World → Prop} (hgd : o.guard = none) (d s : Operand) (dT sT : TypeId)
    (ho : o.op = .call { callee := .builtin .copy, args := #[d, s], argTypes := #[dT, sT] }) (elem : TypeId) (hu : P.underlying dT = some (.slice elem)) (hsz : (P.info? elem).map (·.size) = some 1)
    (b off dLen dCap : Nat) (t : ByteArray) (hd : a.eval d = .slice (some ⟨b, off, none⟩) dLen dCap) (hs : a.eval s = .string t) (ht : w.there b off (Nat.min t.size dLen))
    (h : wpList P ops Q rest (a.put o.dst (goInt (Nat.min t.size dLen))) (w.setCells b off (strCells t (Nat.min t.size dLen)))) : wpList P ops Q (o :: rest) a w := by
  refine wpList_plain hgd fun K hK => ?_
  have hrun := run_copy_str (P := P) w dT sT o.type elem b off dLen dCap t hu hsz ht
  unfold Oper.wp
  simp [execOp, ho, resolve, invoke, builtin, hd, hs, hrun, Result.andThen]
  exact hK _ _ h
theorem wpList_copy_cells {P : Program} {w : World} {ops : Array Oper} {rest : List Oper} {o : Oper} {a : Act} {Q : Exit → Act → World → Prop} (hgd : o.guard = none) (d s : Operand) (dT sT : TypeId)
    (ho : o.op = .call { callee := .builtin .copy, args := #[d, s], argTypes := #[dT, sT] }) (elem : TypeId) (hu : P.underlying dT = some (.slice elem)) (hsz : (P.info? elem).map (·.size) = some 1)
    (b off dLen dCap c oc sLen sCap : Nat) (hd : a.eval d = .slice (some ⟨b, off, none⟩) dLen dCap) (hs : a.eval s = .slice (some ⟨c, oc, none⟩) sLen sCap)
    (cs : List Value) (hn : cs.length = Nat.min sLen dLen) (hr : w.rangeAt c oc cs) (ht : w.there b off cs.length) (h1 : ∀ v ∈ cs, v.oneCell' = true)
    (h : wpList P ops Q rest (a.put o.dst (goInt cs.length)) (w.setCells b off cs)) : wpList P ops Q (o :: rest) a w := by
  refine wpList_plain hgd fun K hK => ?_
  have hrun := run_copy_cells (P := P) w dT sT o.type elem b off dLen dCap ⟨c, oc, none⟩ sLen sCap cs hu hsz hn (fun j v hv => by rw [Addr.add_mid]; exact hr j v hv) (fun j hj => (ht j hj).1) (fun j hj => (ht j hj).2) h1
  unfold Oper.wp
  simp [execOp, ho, resolve, invoke, builtin, hd, hs, hrun, Result.andThen]
  exact hK _ _ h
theorem step_copy_cells {P : Program} {ops : Array Oper} {o : Oper} {a : Act} {w : World} {K : Act → World → Prop} {Q : Exit → Act → World → Prop} {E : Prop} (hgd : o.guard = none) (d s : Operand) (dT sT : TypeId)
    (ho : o.op = .call { callee := .builtin .copy, args := #[d, s], argTypes := #[dT, sT] }) (elem : TypeId) (hu : P.underlying dT = some (.slice elem)) (hsz : (P.info? elem).map (·.size) = some 1)
    (b off dLen dCap c oc sLen sCap : Nat) (hd : a.eval d = .slice (some ⟨b, off, none⟩) dLen dCap) (hs : a.eval s = .slice (some ⟨c, oc, none⟩) sLen sCap)
    (cs : List Value) (hn : cs.length = Nat.min sLen dLen) (hr : w.rangeAt c oc cs) (ht : w.there b off cs.length) (h1 : ∀ v ∈ cs, v.oneCell' = true)
    (h : K (a.put o.dst (goInt cs.length)) (w.setCells b off cs)) :
    if Region.wanted o (yielded ops a.tmps) = true then Oper.wp P o a w K Q else E := by
  have hw : Region.wanted o (yielded ops a.tmps) = true := by simp [Region.wanted, hgd]
  rw [if_pos hw]
  have hrun := run_copy_cells (P := P) w dT sT o.type elem b off dLen dCap ⟨c, oc, none⟩ sLen sCap cs hu hsz hn (fun j v hv => by rw [Addr.add_mid]; exact hr j v hv) (fun j hj => (ht j hj).1) (fun j hj => (ht j hj).2) h1
  unfold Oper.wp
  simp [execOp, ho, resolve, invoke, builtin, hd, hs, hrun, Result.andThen]
  exact h
end Go.Proofs.YtbljhodnpddpiaaGreatDoor

/- Bytes as a text; bytes that are made. No program is imported here. -/
namespace Go.Proofs.YtbljhodnpddpiaaGreatDoor
open Go.RowKit

/-! Bytes as a text. -/
theorem foldl_push (l : List UInt8) : ∀ (s : ByteArray), (l.map fun b => (b.toNat : Int)).foldl (fun r n => r.push (UInt8.ofNat n.toNat)) s = ⟨s.data ++ l.toArray⟩ := by
  induction l with
  | nil => intro s; simp
  | cons b r ih =>
    intro s
    simp only [List.map_cons, List.foldl_cons]
    rw [ih]
    simp [ByteArray.push]
theorem run_bytes_string {P : Program} (w : World) (src dst e : TypeId) (b o len cap : Nat) (l : List UInt8) (hlen : l.length = len)
    (hs : P.underlying src = some (.slice e)) (he : P.underlying e = some (.int .u8)) (hd : P.underlying dst = some .string) (hr : w.rangeAt b o (l.map u8v)) :
    (convert src dst (.slice (some ⟨b, o, none⟩) len cap)).run P w = .ok (.string ⟨l.toArray⟩) w := by
  rw [run_convert_bytes_string w src dst e _ _ _ hs he hd]
  have hm : (l.map fun x => (x.toNat : Int)).map (Value.int .u8) = l.map u8v := by rw [List.map_map]; rfl
  rw [run_bytesToString w ⟨b, o, none⟩ len cap (l.map fun x => (x.toNat : Int)) (by
    rw [hm]
    have := run_loadCells_list (P := P) w ⟨b, o, none⟩ (l.map u8v) (fun j v hv => by rw [Addr.add_mid]; exact hr j v hv)
    rw [List.length_map, hlen] at this
    exact this), foldl_push]
  congr 2
  simp
theorem wpList_bytes_string {P : Program} {w : World} {ops : Array Oper} {rest : List Oper} {o : Oper} {a : Act} {Q : Exit → Act → World → Prop} (hgd : o.guard = none) (src dst : TypeId) (x : Operand) (ho : o.op = .convert src dst x)
    (e : TypeId) (b off len cap : Nat) (hx : a.eval x = .slice (some ⟨b, off, none⟩) len cap) (l : List UInt8) (hlen : l.length = len)
    (hs : P.underlying src = some (.slice e)) (he : P.underlying e = some (.int .u8)) (hd : P.underlying dst = some .string) (hr : w.rangeAt b off (l.map u8v))
    (h : wpList P ops Q rest (a.put o.dst (.string ⟨l.toArray⟩)) w) : wpList P ops Q (o :: rest) a w := by
  refine wpList_run hgd _ _ ?_ h
  unfold execOp
  simp only [ho, hx, Sem.run_bind, run_bytes_string w src dst e b off len cap l hlen hs he hd hr, Result.andThen_ok]
  rfl
theorem wpList_nil_string {P : Program} {w : World} {ops : Array Oper} {rest : List Oper} {o : Oper} {a : Act} {Q : Exit → Act → World → Prop} (hgd : o.guard = none) (src dst : TypeId) (x : Operand) (ho : o.op = .convert src dst x)
    (e : TypeId) (hx : a.eval x = .slice none 0 0)
    (hs : P.underlying src = some (.slice e)) (he : P.underlying e = some (.int .u8)) (hd : P.underlying dst = some .string)
    (h : wpList P ops Q rest (a.put o.dst (.string .empty)) w) : wpList P ops Q (o :: rest) a w := by
  refine wpList_run hgd _ _ ?_ h
  unfold execOp
  simp only [ho, hx, Sem.run_bind, run_convert_bytes_string w src dst e none 0 0 hs he hd, Conv.bytesToString, Sem.run_pure, Result.andThen_ok]
/-- The bytes that a slice owns, as they lie. -/
theorem range_of_own {w : World} {B g n cap : Nat} {e : TypeId} {xs : List Value} (h : w.ownsRow B e 1 (.slice (some ⟨g, 0, none⟩) n cap) n xs) : w.rangeAt g 0 xs := fun j v hv => by
  have hj : j < xs.length := (List.getElem?_eq_some_iff.1 hv).1
  have := h.1
  rw [Nat.zero_add, h.cellAt j (by omega), hv]
/-- What 'make' has made is owned, as far as its length goes. -/
theorem own_made {w : World} {z : Value} {e : TypeId} {B n c : Nat} (hB : B ≤ w.heap.size) (hn : n ≤ c) (hc : c ≤ maxLen) :
    (w.alloc (.cells (List.replicate c z).toArray e)).ownsRow B e 1 (.slice (some ⟨w.heap.size, 0, none⟩) n c) n (List.replicate n z) :=
  ⟨by simp, .inr ⟨w.heap.size, c, _, rfl, hB, heap_alloc_new w _, hn, hc, by simp, by simp [List.take_replicate, Nat.min_eq_left hn]⟩⟩
/-- 'make([]T, n, c)'. -/
theorem wpList_make_row {P : Program} {w : World} {ops : Array Oper} {rest : List Oper} {o : Oper} {a : Act} {Q : Exit → Act → World → Prop} (hgd : o.guard = none) (t : TypeId) (x y : Operand) (ho : o.op = .makeSlice t x y)
    (e : TypeId) (i : TypeInfo) (z : Value) (bytes : Nat) (ht : P.underlying t = some (.slice e)) (hi : P.info? e = some i) (hz : i.zero = some z) (hsz : i.size = 1) (hby : i.bytes = bytes) (hone : z.cells = #[z])
    (n c : Nat) (hx : a.eval x = .int .i64 n) (hy : a.eval y = .int .i64 c) (hnc : n ≤ c) (hbytes : bytes * c ≤ 281474976710656) (hmax : c ≤ 9223372036854775807)
    (h : ∀ w', Hid (w'.ownsRow w.heap.size e 1 (.slice (some ⟨w.heap.size, 0, none⟩) n c) n (List.replicate n z)) → Below w.heap.size w w' →
      wpList P ops Q rest (a.put o.dst (.slice (some ⟨w.heap.size, 0, none⟩) n c)) w') : wpList P ops Q (o :: rest) a w := by
  refine wpList_run hgd _ (w.alloc (.cells (List.replicate c z).toArray e)) ?_ (h _ (own_made (Nat.le_refl _) hnc (by unfold maxLen; omega)) ((Below.refl _ _).alloc (Nat.le_refl _) _))
  have hrun := run_make (P := P) w t e i z ht hi hz .i64 .i64 (n : Int) (c : Int) (by omega) (by omega) (by rw [hby]; omega) (by omega)
  have hm : madeCells z.cells ((c : Int).toNat * i.size) = (List.replicate c z).toArray := by
    rw [hone, hsz]
    apply Array.toList_inj.1
    rw [toList_madeCells_one]; simp
  rw [hm] at hrun
  simp only [Int.toNat_natCast] at hrun
  unfold execOp
  simp only [ho, hx, hy, Sem.run_bind, hrun, Result.andThen_ok]
  rfl
theorem int64_congr {a b : Int} (h : a = b) : Value.int .i64 a = Value.int .i64 b := by rw [h]

/-- 'arr[k:]'. -/
theorem wpList_slice_from {P : Program} {w : World} {ops : Array Oper} {rest : List Oper} {op : Oper} {a : Act} {Q : Exit → Act → World → Prop} (hgd : op.guard = none) (T : TypeId) (x y : Operand) (ho : op.op = .slice T x (some y) none none)
    (n e : Nat) (hu : P.underlying T = some (.array n e)) (hsz : (P.info? e).map (·.size) = some 1) (b o k : Nat) (hx : a.eval x = .pointer (some ⟨b, o, none⟩)) (hy : a.eval y = .int .i64 k) (hk : k < n)
    (h : wpList P ops Q rest (a.put op.dst (.slice (some ⟨b, o + k, none⟩) (n - k) (n - k))) w) : wpList P ops Q (op :: rest) a w := by
  refine wpList_run hgd _ w ?_ h
  have hl : P.arrayLen T = n := by simp [Program.arrayLen, hu]
  have he : P.elem T = e := by simp [Program.elem, hu]
  cases hq : P.info? e with
  | none => simp [hq] at hsz
  | some i =>
    have hi : i.size = 1 := by simpa [hq] using hsz
    have hrun := run_sliceAt_array_l (P := P) w T ⟨b, o, none⟩ (by rw [hl, he]; exact hu) .i64 (k : Int) (by omega) (by rw [hl]; omega)
    have hs : (sizeOf (P.elem T)).run P w = .ok 1 w := by simp [sizeOf, typeInfo, he, hq, hi]
    rw [hs, hl] at hrun
    simp only [Result.andThen_ok, slicedAt, Int.toNat_natCast, Nat.mul_one, if_neg (show ¬ n = k by omega), Addr.add_mid] at hrun
    unfold execOp
    simp only [ho, hx, hy, Option.map_some, Option.map_none, Sem.run_bind, hrun, Result.andThen_ok]
    rfl
end Go.Proofs.YtbljhodnpddpiaaGreatDoor
