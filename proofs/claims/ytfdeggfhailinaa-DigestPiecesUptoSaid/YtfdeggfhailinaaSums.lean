/- The walks of sums that are told piece by piece: making them, telling them a piece. -/
import Derived.Test.YtfdeggfhailinaaMac2
namespace Go.Proofs.Ytfdeggfhailinaa
open Go.RowKit

/-- What the whole blocks of 'l' have made, in both sums. -/
def both (l : List UInt8) : List Value := (Dig.fold Dig.turn256 Dig.h256 l).map u32v ++ (Dig.fold Dig.turn5 Dig.h5 l).map u32v
theorem length_both (l : List UInt8) : (both l).length = 12 := by rw [both, List.length_append, List.length_map, List.length_map, Dig.length_fold256, Dig.length_fold5]
/-- Sums that have been told 'told' lie in block g. -/
def SumsAt (g : Nat) (told : List UInt8) (w : World) : Prop :=
  ∃ rs : List UInt8, rs.length = 64 ∧ rs.take (told.length % 64) = told.drop (told.length / 64 * 64) ∧ w.heap[g]? = some (.cells (tailCells told.length rs (both (told.take (told.length / 64 * 64)))).toArray 52 (0, 0))
theorem SumsAt.lt {g : Nat} {told : List UInt8} {w : World} (h : SumsAt g told w) : g < w.heap.size := by obtain ⟨rs, _, _, h⟩ := h; exact lt_of_heap h
theorem SumsAt.keep {g : Nat} {told : List UInt8} {w w' : World} (h : SumsAt g told w) (hk : w'.heap[g]? = w.heap[g]?) : SumsAt g told w' := by
  obtain ⟨rs, h1, h2, h3⟩ := h; exact ⟨rs, h1, h2, hk.trans h3⟩
theorem SumsAt.below {g B : Nat} {told : List UInt8} {w w' : World} (h : SumsAt g told w) (hb : Below B w w') (hg : g < B) : SumsAt g told w' := h.keep (hb.block g hg)

/-- For the function that takes the blocks in: what it has made, and the cell that holds the sums' address. -/
def Made12 (g c : Nat) (l : List UInt8) (R : List Value) (w : World) : Prop := R = both l ∧ w.heap[c]? = some (.cells [Value.pointer (some ⟨g, 0, none⟩)].toArray 24 (0, 0))

theorem both_get256 {n : Nat} {bs l : List UInt8} {i : Nat} (hb : bs.length = 64) (hi : i < 8) : (tailCells n bs (both l))[65 + i]? = some (u32v ((Dig.fold Dig.turn256 Dig.h256 l).getD i 0)) := by
  rw [Nat.add_comm, show i + 65 = (i + 64) + 1 from rfl, tailCells, List.getElem?_cons_succ, List.getElem?_append_right (by rw [List.length_map]; omega), List.length_map, hb, Nat.add_sub_cancel, both, List.getElem?_append_left (by rw [List.length_map, Dig.length_fold256]; omega)]
  exact getD_list (Dig.length_fold256 l) hi
theorem both_get5 {n : Nat} {bs : List UInt8} {W : List UInt32} {F : List UInt32} {i : Nat} (hb : bs.length = 64) (hW : W.length = 8) (hF : F.length = 4) (hi : i < 4) : (tailCells n bs (W.map u32v ++ F.map u32v))[73 + i]? = some (u32v (F.getD i 0)) := by
  rw [Nat.add_comm, show i + 73 = (i + 8 + 64) + 1 from rfl, tailCells, List.getElem?_cons_succ, List.getElem?_append_right (by rw [List.length_map]; omega), List.length_map, hb, List.getElem?_append_right (by rw [List.length_map]; omega), List.length_map, hW, show i + 8 + 64 - 64 - 8 = i from by omega]
  exact getD_list hF hi
theorem laid_256 {n : Nat} {bs : List UInt8} {W W' F : List UInt32} (hb : bs.length = 64) (hW : W.length = 8) (hW' : W'.length = 8) : laid (tailCells n bs (W.map u32v ++ F.map u32v)) 65 (W'.map u32v) = tailCells n bs (W'.map u32v ++ F.map u32v) := by
  have h := laid_mid (W'.map u32v) (.int .i64 n :: bs.map u8v) (W.map u32v) (F.map u32v) (by rw [List.length_map, List.length_map, hW, hW'])
  rw [show (Value.int .i64 n :: bs.map u8v).length = 65 from by simp [hb]] at h
  exact h
theorem laid_5 {n : Nat} {bs : List UInt8} {W F F' : List UInt32} (hb : bs.length = 64) (hW : W.length = 8) (hF : F.length = 4) (hF' : F'.length = 4) : laid (tailCells n bs (W.map u32v ++ F.map u32v)) 73 (F'.map u32v) = tailCells n bs (W.map u32v ++ F'.map u32v) := by
  have h := laid_mid (F'.map u32v) (.int .i64 n :: (bs.map u8v ++ W.map u32v)) (F.map u32v) [] (by rw [List.length_map, List.length_map, hF, hF'])
  rw [show (Value.int .i64 n :: (bs.map u8v ++ W.map u32v)).length = 73 from by simp [hb, hW]] at h
  simp only [List.append_nil, List.cons_append, List.append_assoc] at h
  exact h

set_option maxHeartbeats 1000000 in
theorem told_call (g c n : Nat) (l bs : List UInt8) (R : List Value) (w : World) (hne : c ≠ g) (hl : l.length % 64 = 0) (hb : bs.length = 64) (hg : w.heap[g]? = some (.cells (tailCells n bs R).toArray 52 (0, 0))) (hI : Made12 g c l R w) :
    Calls Try.prog 31 #[.pointer (some ⟨g, 1, none⟩), .pointer (some ⟨c, 0, none⟩)] w fun e w' =>
      e = .returned (.tuple #[]) ∧ (∃ R', w'.heap[g]? = some (.cells (tailCells n bs R').toArray 52 (0, 0)) ∧ Made12 g c (l ++ bs) R' w') ∧ Kept w.heap.size [g] w w' := by
  obtain ⟨rfl, hc⟩ := hI
  have hgB := lt_of_heap hg
  have hcB := lt_of_heap hc
  have c0 : w.cell? ⟨c, 0, none⟩ = some (.pointer (some ⟨g, 0, none⟩)) := by rw [cell_of_list hc]; rfl
  have HG := Lib.hid hg
  have HC := Lib.hid hc
  have HB := Lib.hid hb
  have HL := Lib.hid hl
  clear hg hc hb hl
  go_enter Try.func31, Try.ntmps31
  go_wp2_with fail
  have hlen := Dig.length_fold256 l
  have hlen5 := Dig.length_fold5 l
  refine (turn256_any g 65 g 1 (Dig.fold Dig.turn256 Dig.h256 l) bs (tailCells n bs (both l)) (tailCells n bs (both l)) 52 52 (0, 0) w HG.out hlen (fun i hi => both_get256 HB.out hi) HG.out (fun i hi => tail_get HB.out hi)).mono ?_
  rintro e w1 ⟨rfl, hg1, hk1⟩
  rw [both, laid_256 HB.out hlen (Dig.length_turn256 _ bs hlen), ← Dig.fold_snoc Dig.turn256 Dig.h256 l bs HL.out HB.out] at hg1
  have hlen2 := Dig.length_fold256 (l ++ bs)
  have hc1 : w1.heap[c]? = some (.cells [Value.pointer (some ⟨g, 0, none⟩)].toArray 24 (0, 0)) := (hk1.block c hcB (by simp [hne])).trans HC.out
  have c1 : w1.cell? ⟨c, 0, none⟩ = some (.pointer (some ⟨g, 0, none⟩)) := by rw [cell_of_list hc1]; rfl
  have G1 := Lib.hid hg1
  have C1 := Lib.hid hc1
  have K1 := Lib.hid hk1
  have L2 := Lib.hid hlen2
  have L5 := Lib.hid hlen5
  clear hg1 hc1 hk1 hlen2 hlen5 hlen c0
  go_wp2_with fail
  refine (turn5_any g 73 g 1 (Dig.fold Dig.turn5 Dig.h5 l) bs _ _ 52 52 (0, 0) w1 G1.out L5.out (fun i hi => both_get5 HB.out L2.out L5.out hi) G1.out (fun i hi => tail_get HB.out hi)).mono ?_
  rintro e w2 ⟨rfl, hg2, hk2⟩
  rw [laid_5 HB.out L2.out L5.out (Dig.length_turn5 _ bs L5.out), ← Dig.fold_snoc Dig.turn5 Dig.h5 l bs HL.out HB.out] at hg2
  have hz := K1.out.size
  go_wp2_with fail
  go_end0
  refine ⟨rfl, ⟨_, hg2, rfl, (hk2.block c (by omega) (by simp [hne])).trans C1.out⟩, K1.out.trans (hk2.mono hz (fun _ _ h => h))⟩
theorem takes12 (g c : Nat) (hne : c ≠ g) : Takes 31 #[] #[.pointer (some ⟨c, 0, none⟩)] g 52 (Made12 g c) [g] where
  enters := fun args w => by kernel_rfl
  mem := by simp
  stays := fun l R w w' h hk => ⟨h.1, (hk c hne).trans h.2⟩
  call := fun n l bs R w hl hb hg hI => told_call g c n l bs R w hne hl hb hg hI
end Go.Proofs.Ytfdeggfhailinaa
