/- Matrices in memory: cells row by row; the walks of the smallest functions of layer 7. -/
import Derived.Test.YteanbflbclmeeaaGreatGScale2
import Derived.Test.YteanbflbclmeeaaGreatMSpec
import Derived.Deep.RegionHeldLaw
namespace Go.Proofs.YteanbflbclmeeaaGreat
open Go.RowKit

/-! A matrix's cells, row by row. -/
@[irreducible] def flat (M : Mat) (r c : Nat) : List UInt8 := (List.range (r * c)).map fun k => M (k / c) (k % c)
theorem length_flat (M : Mat) (r c : Nat) : (flat M r c).length = r * c := by unfold flat; simp
theorem at_lt {i j r c : Nat} (hi : i < r) (hj : j < c) : i * c + j < r * c := by
  have : i * c + c ≤ r * c := by rw [← Nat.succ_mul]; exact Nat.mul_le_mul_right c hi
  omega
theorem at_div {i j c : Nat} (hj : j < c) : (i * c + j) / c = i ∧ (i * c + j) % c = j := by
  have hc : 0 < c := by omega
  rw [Nat.mul_comm, Nat.mul_add_div hc, Nat.mul_add_mod, Nat.div_eq_of_lt hj, Nat.mod_eq_of_lt hj]; exact ⟨rfl, rfl⟩
theorem flat_some (M : Mat) (r c k : Nat) (hk : k < r * c) : (flat M r c)[k]? = some (M (k / c) (k % c)) := by
  unfold flat; rw [List.getElem?_map, List.getElem?_range hk]; rfl
theorem flat_get (M : Mat) {r c i j : Nat} (hi : i < r) (hj : j < c) : (flat M r c)[i * c + j]? = some (M i j) := by
  rw [flat_some M r c _ (at_lt hi hj), (at_div hj).1, (at_div hj).2]
theorem flat_alike {r c : Nat} {A B : Mat} (h : Alike r c A B) : flat A r c = flat B r c := by
  unfold flat
  refine List.map_congr_left fun k hk => ?_
  have hk := List.mem_range.1 hk
  have hc : 0 < c := by rcases Nat.eq_zero_or_pos c with h | h; (subst h; omega); exact h
  exact h _ _ (Nat.div_lt_of_lt_mul (by rw [Nat.mul_comm]; exact hk)) (Nat.mod_lt _ hc)
theorem alike_of_flat {r c : Nat} {A B : Mat} (h : flat A r c = flat B r c) : Alike r c A B := fun i j hi hj => by
  have h1 := flat_get A hi hj
  rw [h, flat_get B hi hj] at h1
  exact (Option.some.inj h1).symm
/-- One cell more. -/
def setM (i j : Nat) (x : UInt8) (M : Mat) : Mat := fun a b => if a = i ∧ b = j then x else M a b
theorem flat_set (M : Mat) {r c i j : Nat} (x : UInt8) (hi : i < r) (hj : j < c) : (flat M r c).set (i * c + j) x = flat (setM i j x M) r c := by
  apply List.ext_getElem?
  intro k
  by_cases hk : k < r * c
  · rw [flat_some _ r c k hk]
    by_cases he : k = i * c + j
    · subst he
      rw [List.getElem?_set_self (by rw [length_flat]; exact hk), (at_div hj).1, (at_div hj).2]
      simp [setM]
    · rw [List.getElem?_set_ne (fun e => he e.symm), flat_some _ r c k hk]
      have : ¬ (k / c = i ∧ k % c = j) := by
        rintro ⟨rfl, rfl⟩
        exact he (by rw [Nat.mul_comm]; exact (Nat.div_add_mod k c).symm)
      unfold setM; rw [if_neg this]
  · rw [List.getElem?_eq_none (by rw [List.length_set, length_flat]; omega), List.getElem?_eq_none (by rw [length_flat]; omega)]
/-- One row more. -/
def setRow (i : Nat) (f : Nat → UInt8) (M : Mat) : Mat := fun a b => if a = i then f b else M a b
def ahead (M : Mat) (r c i : Nat) : List UInt8 := (flat M r c).take (i * c)
def behind (M : Mat) (r c i : Nat) : List UInt8 := (flat M r c).drop ((i + 1) * c)
theorem length_ahead (M : Mat) {r c i : Nat} (hi : i < r) : (ahead M r c i).length = i * c := by
  have : i * c ≤ r * c := Nat.mul_le_mul_right c (by omega)
  unfold ahead; rw [List.length_take, length_flat]; omega
theorem flat_split (M : Mat) {r c i : Nat} (f : Nat → UInt8) (hi : i < r) : flat (setRow i f M) r c = ahead M r c i ++ (textOf f c ++ behind M r c i) := by
  have e1 : (i + 1) * c = i * c + c := Nat.succ_mul i c
  have e2 : (i + 1) * c ≤ r * c := Nat.mul_le_mul_right c (by omega)
  apply List.ext_getElem?
  intro k
  by_cases h1 : k < i * c
  · rw [List.getElem?_append_left (by rw [length_ahead M hi]; exact h1), flat_some _ r c k (by omega)]
    unfold ahead
    rw [List.getElem?_take, if_pos h1, flat_some _ r c k (by omega)]
    unfold setRow
    rw [if_neg (fun e => by have := Nat.div_mul_le_self k c; rw [e] at this; omega)]
  · rw [List.getElem?_append_right (by rw [length_ahead M hi]; omega), length_ahead M hi]
    by_cases h2 : k < (i + 1) * c
    · rw [List.getElem?_append_left (by rw [length_textOf]; omega), flat_some _ r c k (by omega)]
      have hk : k = i * c + (k - i * c) := by omega
      have hd := at_div (i := i) (j := k - i * c) (c := c) (by omega)
      rw [← hk] at hd
      unfold setRow textOf
      rw [if_pos hd.1, hd.2, List.getElem?_map, List.getElem?_range (by omega)]; rfl
    · rw [List.getElem?_append_right (by rw [length_textOf]; omega), length_textOf]
      unfold behind
      rw [List.getElem?_drop, show (i + 1) * c + (k - i * c - c) = k by omega]
      by_cases h3 : k < r * c
      · rw [flat_some _ r c k h3, flat_some _ r c k h3]
        unfold setRow
        rw [if_neg (fun e => by
          have hc : 0 < c := by rcases Nat.eq_zero_or_pos c with h | h; (subst h; omega); exact h
          have := Nat.lt_mul_div_succ k hc
          rw [e, Nat.mul_comm] at this; omega)]
      · rw [List.getElem?_eq_none (by rw [length_flat]; omega), List.getElem?_eq_none (by rw [length_flat]; omega)]
theorem setRow_self (M : Mat) (i : Nat) : setRow i (M i) M = M := by
  funext a b; unfold setRow; split
  · rename_i h; rw [h]
  · rfl
theorem flat_row (M : Mat) {r c i : Nat} (hi : i < r) : flat M r c = ahead M r c i ++ (textOf (M i) c ++ behind M r c i) := by
  have h := flat_split M (M i) (c := c) hi
  rw [setRow_self] at h; exact h
theorem flat_zero (r c : Nat) : flat (fun _ _ => 0) r c = List.replicate (r * c) 0 := by unfold flat; rw [List.map_const']; simp

/-- A block of cells of a matrix. -/
def Tab (g : Nat) (M : Mat) (r c : Nat) (w : World) : Prop := w.heap[g]? = some (.cells ((flat M r c).map u8v).toArray 5 (0, 0))
theorem Tab.lt {g : Nat} {M : Mat} {r c : Nat} {w : World} (h : Tab g M r c w) : g < w.heap.size := lt_of_heap h
theorem Tab.keep {g : Nat} {M : Mat} {r c : Nat} {w w' : World} (h : Tab g M r c w) (hk : w'.heap[g]? = w.heap[g]?) : Tab g M r c w' := hk.trans h
theorem Tab.below {B g : Nat} {M : Mat} {r c : Nat} {w w' : World} (h : Tab g M r c w) (hb : Below B w w') (hg : g < B) : Tab g M r c w' := h.keep (hb.block g hg)
theorem Tab.alike {g : Nat} {M N : Mat} {r c : Nat} {w : World} (h : Tab g M r c w) (ha : Alike r c M N) : Tab g N r c w := by unfold Tab; rw [← flat_alike ha]; exact h
/-- Cells that may be read at a place. -/
def Src (b o : Nat) (M : Mat) (r c : Nat) (w : World) : Prop := w.rangeAt b o ((flat M r c).map u8v)
theorem Tab.src {g : Nat} {M : Mat} {r c : Nat} {w : World} (h : Tab g M r c w) : Src g 0 M r c w := range_of_list h
theorem Src.cell {b o : Nat} {M : Mat} {r c : Nat} {w : World} (h : Src b o M r c w) {i j : Nat} (hi : i < r) (hj : j < c) : w.cell? ⟨b, o + (i * c + j), none⟩ = some (u8v (M i j)) :=
  h (i * c + j) _ (by rw [List.getElem?_map, flat_get M hi hj]; rfl)
theorem Src.keep {b o : Nat} {M : Mat} {r c : Nat} {w w' : World} (h : Src b o M r c w) (hk : w'.heap[b]? = w.heap[b]?) : Src b o M r c w' :=
  fun j v hv => (World.cell?_of_block (w := w) (a := ⟨b, o + j, none⟩) hk).trans (h j v hv)
theorem Src.row {b o : Nat} {M : Mat} {r c : Nat} {w : World} (h : Src b o M r c w) {i : Nat} (hi : i < r) : w.rangeAt b (o + i * c) ((textOf (M i) c).map u8v) := by
  intro j v hv
  have hj : j < c := by have := (List.getElem?_eq_some_iff.1 hv).1; rw [List.length_map, length_textOf] at this; exact this
  have e : ((textOf (M i) c).map u8v)[j]? = some (u8v (M i j)) := by unfold textOf; rw [List.getElem?_map, List.getElem?_map, List.getElem?_range hj]; rfl
  rw [e] at hv
  injection hv with hv
  subst hv
  rw [Nat.add_assoc]; exact h.cell hi hj

/-! The smallest functions. -/
@[irreducible] def mayB (n : Int) : Bool := decide (1 ≤ n ∧ n ≤ 255)
theorem mayB_eq (n : Int) : mayB n = decide (1 ≤ n ∧ n ≤ 255) := by unfold mayB; rfl
theorem ret_bool {a b : Bool} (h : a = b) : Ending.returned (.bool a) = .returned (.bool b) := by rw [h]
theorem mayBe_any (n : Int) (w : World) : Calls Tryz.prog 57 #[.int .i64 n] w fun e w' => e = .returned (.bool (mayB n)) ∧ w = w' := by
  have HM := Lib.hid (mayB_eq n)
  go_enter Tryz.func57, Tryz.ntmps57
  go_wp2_with fail
  all_goals
    go_ret
    refine ⟨ret_bool ?_, rfl⟩
    rw [HM.out]
    simp
    try omega
def faultV (g : Nat) : Value := .iface 69 (.pointer (some ⟨g, 0, none⟩))
/-- An error of a number, at block g. -/
def FaultAt (g : Nat) (c a : Int) (w : World) : Prop := w.heap[g]? = some (.cells [Value.int .i64 c, .int .i64 a, .nilIface].toArray 72 (0, 0))
theorem FaultAt.keep {g : Nat} {c a : Int} {w w' : World} (h : FaultAt g c a w) (hk : w'.heap[g]? = w.heap[g]?) : FaultAt g c a w' := hk.trans h
theorem FaultAt.lt {g : Nat} {c a : Int} {w : World} (h : FaultAt g c a w) : g < w.heap.size := lt_of_heap h
theorem fault_any (c : Int) (w : World) : Calls Tryz.prog 66 #[.int .i64 c] w fun e w' => e = .returned (.iface 69 (.pointer (some ⟨w.heap.size, 0, none⟩))) ∧ FaultAt w.heap.size c 0 w' ∧ Below w.heap.size w w' := by
  go_enter Tryz.func66, Tryz.ntmps66
  go_wp2_with fail
  go_ret
  exact ⟨rfl, heap_alloc_new _ _, (Below.refl _ _).alloc (Nat.le_refl _) _⟩
theorem results_mid2 {P : Program} {fn : Func} {p t : Tmp} {ty : TypeId} (h : fn.results = #[.cell p ty, .tmp t]) (tmps : Array Value) (w : World) (g o : Nat) (cs : List Value) (d : TypeDesc)
    (hp : tmps.getD p undef = .pointer (some ⟨g, o, none⟩)) (hc : w.rangeAt g o cs)
    (hu : P.underlying ty = some d) (hd : d.isRow = true) (hi : (P.info? ty).map (·.size) = some cs.length) :
    (results fn tmps).run P w = .ok (.tuple #[.agg cs.toArray, tmps.getD t undef]) w := by
  have hp' : tmps[p]?.getD undef = .pointer (some ⟨g, o, none⟩) := by simpa using hp
  simp [results, h, hp', asAddr, run_loadVar_mid w g o ty cs d hc hu hd hi]
/-- What is answered in the place of a matrix. -/
def noneV : Value := .agg #[.int .i64 0, .int .i64 0, .slice none 0 0]
def zeroRow : List Value := [.int .i64 0, .int .i64 0, .slice none 0 0]
theorem size_matrix (a b c : Value) : (Tryz.prog.info? 62).map (·.size) = some [a, b, c].length := by kernel_rfl
theorem size_table (a b c : Value) : (Tryz.prog.info? 104).map (·.size) = some [a, b, c].length := by kernel_rfl
theorem nothing_any (c : Int) (w : World) : Calls Tryz.prog 58 #[.int .i64 c] w fun e w' => ∃ g, w.heap.size ≤ g ∧ e = .returned (.tuple #[noneV, faultV g]) ∧ FaultAt g c 0 w' ∧ Below w.heap.size w w' := by
  go_enter Tryz.func58, Tryz.ntmps58
  go_wp2_with fail
  refine (fault_any _ _).mono ?_
  rintro e w1 ⟨rfl, hF, hb⟩
  have h0 := heap_alloc_new w (.cells #[Value.int .i64 0, .int .i64 0, .slice none 0 0] 62)
  have h1 : w1.heap[w.heap.size]? = some (.cells zeroRow.toArray 62 (0, 0)) := (hb.block w.heap.size (by simp)).trans h0
  have HF := Lib.hid hF
  have HB := Lib.hid hb
  clear h0 hF hb
  go_wp2_with (refine wpList_store_whole rfl 62 _ _ rfl w.heap.size zeroRow zeroRow 62 rfl rfl h1 rfl (by kernel_rfl) (by decide) ?_; intro w2 h2 k2 s2; go_frame)
  have hF : FaultAt (w.heap.size + 1) c 0 w1 := by simpa using HF.out
  refine bodyPost_ret (results_mid2 Tryz.results58 _ _ w.heap.size 0 zeroRow _ rfl (range_of_list h2.out) Tryz.underlying62 rfl (by kernel_rfl)) rfl ⟨w.heap.size + 1, by omega, rfl, ?_, ?_⟩
  · exact hF.keep (k2.out.block _ hF.lt (by simp))
  · exact below_kept ((Below.refl _ _).alloc (Nat.le_refl _) _ |>.trans (HB.out.mono (by simp))) k2.out (Nat.le_refl _) (by have := HB.out.size; rw [World.size_alloc] at this; omega)
/-- The row of a table. -/
theorem row_any (r c b o len cap i A : Nat) (hA : i * c = A) (hi : A + c ≤ cap) (hc : A + c ≤ 1000000) (hc0 : 1 ≤ c) (h1 : i ≤ 1000000) (h2 : c ≤ 1000000) (w : World) :
    Calls Tryz.prog 60 #[.agg #[.int .i64 r, .int .i64 c, .slice (some ⟨b, o, none⟩) len cap], .int .i64 i] w fun e w' => e = .returned (.slice (some ⟨b, o + A, none⟩) c (cap - A)) ∧ Below w.heap.size w w' := by
  have hx : (i : Int) * (c : Int) = (A : Int) := by rw [← hA]; simp
  have hz : wrap64 (((i : Int) + 1) * (c : Int)) = ((A + c : Nat) : Int) := by
    rw [Int.add_mul, Int.one_mul, hx]; unfold wrap64; omega
  obtain ⟨Z, hZ⟩ : ∃ Z, Z = A + c := ⟨_, rfl⟩
  rw [← hZ] at hz
  clear hA
  go_enter Tryz.func60, Tryz.ntmps60
  go_wp2_with fail
  go_ret
  refine ⟨?_, (Below.refl _ _).alloc (Nat.le_refl _) _⟩
  show Ending.returned (Value.slice (some { block := b, off := o + A }) (A + c - A) (cap - A)) = _
  rw [Nat.add_sub_cancel_left]
/-- A table at block g. -/
def tabV (g : Nat) (r c N : Nat) : Value := .agg #[.int .i64 r, .int .i64 c, .slice (some ⟨g, 0, none⟩) N N]
def tabRow (g : Nat) (r c N : Nat) : List Value := [.int .i64 r, .int .i64 c, .slice (some ⟨g, 0, none⟩) N N]
theorem tabRow_ones (g r c N : Nat) : ∀ v ∈ tabRow g r c N, v.oneCell' = true := by unfold tabRow; intro v hv; simp at hv; rcases hv with rfl | rfl | rfl <;> rfl
abbrev zeroM : Mat := fun _ _ => 0
theorem tab_zero {r c N : Nat} (hN : r * c = N) {w : World} {g : Nat} (h : w.heap[g]? = some (.cells (List.replicate N (Value.int .u8 0)).toArray 5 (0, 0))) : Tab g zeroM r c w := by
  unfold Tab
  rw [flat_zero, hN, List.map_replicate]; exact h
theorem make_zeros (N : Nat) (hN : N ≤ 1000000) (w : World) : (Instr.makeSlice 60 (.int .i64 N) (.int .i64 N)).run Tryz.prog w = .ok (.slice (some ⟨w.heap.size, 0, none⟩) N N) (w.alloc (.cells (List.replicate N (Value.int .u8 0)).toArray 5)) := by
  obtain ⟨i0, hi, hz0, hz1, hz2⟩ := ginfo_parts infoByte
  have hrun := run_make (P := Tryz.prog) w 60 5 i0 (.int .u8 0) Tryz.underlying60 hi hz0 .i64 .i64 (N : Int) (N : Int) (by omega) (by omega) (by rw [hz2]; omega) (by omega)
  have hm : madeCells (Value.int .u8 0).cells ((N : Int).toNat * i0.size) = (List.replicate N (Value.int .u8 0)).toArray := by
    rw [hz1]
    apply Array.toList_inj.1
    rw [show (Value.int .u8 0).cells = #[Value.int .u8 0] from rfl, toList_madeCells_one]; simp
  rw [hm] at hrun
  simpa only [Int.toNat_natCast] using hrun
theorem blank_any (r c N : Nat) (hN : r * c = N) (hmax : N ≤ 1000000) (w : World) :
    Calls Tryz.prog 59 #[.int .i64 r, .int .i64 c] w fun e w' => ∃ g, w.heap.size ≤ g ∧ e = .returned (tabV g r c N) ∧ Tab g zeroM r c w' ∧ Below w.heap.size w w' := by
  have hx : wrap64 ((r : Int) * (c : Int)) = (N : Int) := by
    have : (r : Int) * (c : Int) = (N : Int) := by rw [← hN]; simp
    rw [this]; unfold wrap64; omega
  have hm := make_zeros N hmax
  have HN := Lib.hid hN
  clear hN
  go_enter Tryz.func59, Tryz.ntmps59
  go_wp2_with (refine wpList_store_whole rfl 104 _ _ rfl w.heap.size (tabRow (w.heap.size + 1) r c N) zeroRow 104 rfl rfl (by first | exact heap_alloc2_old _ _ _ | exact heap_alloc_old _ _ (by simp)) rfl (by kernel_rfl) (tabRow_ones _ _ _ _) ?_; intro w2 h2 k2 s2; go_frame)
  have hnew := heap_alloc2_new w (.cells zeroRow.toArray 104) (.cells (List.replicate N (Value.int .u8 0)).toArray 5)
  refine bodyPost_ret (results_mid Tryz.results59 _ _ w.heap.size 0 (tabRow (w.heap.size + 1) r c N) _ rfl (range_of_list h2.out) Tryz.underlying104 rfl (by kernel_rfl)) rfl ⟨w.heap.size + 1, by omega, rfl, ?_, ?_⟩
  · exact (tab_zero HN.out hnew).keep (k2.out.block _ (by simp) (by simp))
  · exact below_kept (((Below.refl _ _).alloc (Nat.le_refl _) _).alloc (by simp) _) k2.out (Nat.le_refl _) (by simp; omega)
end Go.Proofs.YteanbflbclmeeaaGreat
