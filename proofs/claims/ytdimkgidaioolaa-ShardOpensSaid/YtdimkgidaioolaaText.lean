/- The walks of strings.Builder as it is met here, of a number's byte, of words as a text. -/
import Derived.Test.YtdimkgidaioolaaTurn5
import Derived.Test.YtdimkgidaioolaaWord2
import Derived.Lib.Builder
import Derived.Lib.UnsafeStr
import Derived.Lib.Strings
import Derived.Lib.Slices
import Derived.Lib.Walk
import Derived.Lib.AppendStr
namespace Go.Proofs.Ytdimkgidaioolaa
open Go.RowKit

theorem d_sizeBuilder : (Try.prog.info? 45).map (·.size) = some 2 := by kernel_rfl
theorem liesBuilder : liesAt Try.prog Try.prog.depth 45 (2 / Try.prog.cellsOf 45) 0 45 1 = true := by kernel_rfl
theorem d_infoByte : (Try.prog.info? 5).map (fun i => (i.zero, i.size, i.bytes)) = some (some (.int .u8 0), 1, 1) := by kernel_rfl
theorem cellsByte : Try.prog.cellsOf 5 = 1 := by kernel_rfl

set_option maxRecDepth 100000 in
set_option maxHeartbeats 1000000 in
theorem d_copyCheck_used (b : Nat) (w : World) (h0 : w.cell? ⟨b, 0, none⟩ = some (.pointer (some ⟨b, 0, none⟩))) :
    Calls Try.prog 29 #[.pointer (some ⟨b, 0, none⟩)] w fun e w' => e = .returned (.tuple #[]) ∧ w' = w := by
  obtain ⟨j, hj, _⟩ := Option.map_eq_some_iff.1 d_sizeBuilder
  go_enter Try.func29, Try.ntmps29
  go_wp2
  rw [Lib.run_neq_ptr_same w _ Try.underlying43 hj]
  go_wp2
  go_end0
  exact ⟨rfl, rfl⟩
set_option maxRecDepth 100000 in
set_option maxHeartbeats 1000000 in
theorem copyCheck_fresh (b : Nat) (w : World) (h0 : w.cell? ⟨b, 0, none⟩ = some (.pointer none)) (hsh : w.shape? b = some (45, 2)) (hfz : w.frozen? ⟨b, 0, none⟩ = false) :
    Calls Try.prog 29 #[.pointer (some ⟨b, 0, none⟩)] w fun e w' => e = .returned (.tuple #[]) ∧ w' = w.setCell ⟨b, 0, none⟩ (.pointer (some ⟨b, 0, none⟩)) := by
  obtain ⟨j, hj, hjs⟩ := Option.map_eq_some_iff.1 d_sizeBuilder
  go_enter Try.func29, Try.ntmps29
  go_wp2
  rw [Lib.run_to_unsafe w ⟨b, 0, none⟩ Try.underlying43 Try.underlying76 hj (by rw [hjs]; decide) hsh (Nat.zero_lt_succ 1)]
  simp only [Result.andThen]
  rw [Oper.upon_value]
  go_wp2
  rw [run_callFunc_extern Try.func39 (by kernel_rfl) (by kernel_rfl) (by kernel_rfl) (e := Extern.AbiNoEscape.same) (by kernel_rfl)]
  rw [Lib.run_noEscape]
  simp only [Result.andThen]
  rw [Oper.upon_value]
  go_wp2
  rw [Lib.run_from_unsafe w ⟨b, 0, none⟩ Try.underlying76 Try.underlying43 hj hsh liesBuilder]
  simp only [Result.andThen]
  rw [Oper.upon_value]
  go_wp2
  go_end0
  exact ⟨rfl, rfl⟩
theorem copyCheck_any (B b : Nat) (bs : List Value) (w : World) (h : Lib.IsBuilder 45 5 B b bs w) :
    Calls Try.prog 29 #[.pointer (some ⟨b, 0, none⟩)] w fun e w' => e = .returned (.tuple #[]) ∧ (Lib.BuilderAt 45 5 B b (.pointer (some ⟨b, 0, none⟩)) bs w' ∧ Below B w w') := by
  rcases h with h | h
  · refine (copyCheck_fresh b w h.cell0 h.shape h.frozen0).mono ?_
    rintro e w' ⟨rfl, rfl⟩
    exact ⟨rfl, h.used _, (Below.refl B w).setCell (p := ⟨b, 0, none⟩) h.1 _⟩
  · refine (d_copyCheck_used b w h.cell0).mono ?_
    rintro e w' ⟨rfl, rfl⟩
    exact ⟨rfl, h, Below.refl B _⟩

set_option maxHeartbeats 2000000 in
theorem WriteByte_any (B b : Nat) (bs : List Value) (c : Int) (w : World) (h : Lib.IsBuilder 45 5 B b bs w) (hlen : bs.length + 1 ≤ 140737488355328) (hBw : B ≤ w.heap.size) :
    Calls Try.prog 62 #[.pointer (some ⟨b, 0, none⟩), .int .u8 c] w fun e w' => e = .returned .nilIface ∧ (Lib.BuilderAt 45 5 B b (.pointer (some ⟨b, 0, none⟩)) (bs ++ [.int .u8 c]) w' ∧ Below B w w') := by
  obtain ⟨i0, hi, hz0, hz1, hz2⟩ := info_parts d_infoByte
  go_enter Try.func62, Try.ntmps62
  go_wp2_with fail
  refine (copyCheck_any B b bs _ h).mono ?_
  rintro e w1 ⟨rfl, h1, hb1⟩
  obtain ⟨hB, v, hbk, hown, hne⟩ := h1
  have c0 : w1.cell? ⟨b, 0, none⟩ = some (.pointer (some ⟨b, 0, none⟩)) := by rw [Lib.cell_of_heap hbk]; rfl
  have c1 : w1.cell? ⟨b, 1, none⟩ = some v := by rw [Lib.cell_of_heap hbk]; rfl
  go_wp2_with (at_builtin; refine wpList_append_own _ rfl _ _ 35 rfl B 5 i0 (.int .u8 0) 1 1 Try.underlying35 hi hz0 hz1 hz2 rfl (by decide) _ _ _ rfl (hown.alloc _) ⟨w1.heap.size, 0, none⟩ 1 1 [.int .u8 c] rfl rfl ?c1 ?c2 ?c3 ?c4 ?c5 ?_)
  case c1 =>
    intro j u hj
    match j, hj with
    | 0, hj => simp at hj; subst hj; simp [Addr.add]
  case c2 => intro u hu; simp at hu; subst hu; rfl
  case c3 => unfold maxLen; omega
  case c4 => omega
  case c5 => have := hb1.size; simp; omega
  intro v' w2 hown' hgrow _
  have hlt : b < w1.heap.size := lt_of_heap hbk
  have hb2 : w2.heap[b]? = some (.cells #[.pointer (some ⟨b, 0, none⟩), v] 45 (0, 0)) := by
    rw [hgrow.block b (by simp; omega) (fun e => hne e.symm), Lib.alloc_old w1 _ b hlt]
    exact hbk
  have d0 : w2.cell? ⟨b, 0, none⟩ = some (.pointer (some ⟨b, 0, none⟩)) := by rw [Lib.cell_of_heap hb2]; rfl
  have d1 : w2.cell? ⟨b, 1, none⟩ = some v := by rw [Lib.cell_of_heap hb2]; rfl
  have f1 : w2.frozen? ⟨b, 1, none⟩ = false := Lib.frozen_of_heap hb2 1
  obtain ⟨g, cap, rfl⟩ : ∃ g cap, v' = .slice (some ⟨g, 0, none⟩) (bs.length + 1) cap := by
    rcases hown'.2 with ⟨_, h0⟩ | ⟨g, cap, cur, hv, _⟩
    · omega
    · exact ⟨g, cap, hv⟩
  go_wp2
  go_ret
  refine ⟨rfl, ?_, ?_⟩
  · exact Lib.BuilderAt.put (T := 45) (e := 5) hB hb2 (bs' := bs ++ [.int .u8 c]) (by simpa using hown') (by decide)
  · exact ((hb1.alloc (by have := hb1.size; omega) _).grown hgrow (by have := hb1.size; simp; omega) (fun k hk => (hown.lt k hk).1)).setCell (p := ⟨b, 1, none⟩) hB _

set_option maxHeartbeats 1000000 in
theorem d_String_any (B b : Nat) (l : List UInt8) (w : World) (h : Lib.IsBuilder 45 5 B b (Lib.byteCells l) w) (h0 : l ≠ []) :
    Calls Try.prog 21 #[.pointer (some ⟨b, 0, none⟩)] w fun e w' => e = .returned (.string ⟨l.toArray⟩) ∧ Below B w w' := by
  obtain ⟨p, hB, v, hbk, hown, hne⟩ : ∃ p, Lib.BuilderAt 45 5 B b p (Lib.byteCells l) w := by
    rcases h with h | h
    · exact ⟨_, h⟩
    · exact ⟨_, h⟩
  have hl0 : l.length ≠ 0 := by simpa using h0
  rw [Lib.byteCells_length] at hown
  obtain ⟨g, cap, cur, rfl, hbg, hg, hnc, hcm, hcs, htake⟩ : ∃ g cap cur, v = .slice (some ⟨g, 0, none⟩) l.length cap ∧ B ≤ g ∧ w.heap[g]? = some (.cells cur 5 (0, 0)) ∧ l.length ≤ cap ∧ cap ≤ maxLen ∧ cur.size = cap * 1 ∧ cur.toList.take (l.length * 1) = Lib.byteCells l := by
    rcases hown.2 with ⟨_, hz⟩ | ⟨g, cap, cur, hv, r⟩
    · exact absurd hz hl0
    · exact ⟨g, cap, cur, hv, r⟩
  have c1 : w.drew.cell? ⟨b, 1, none⟩ = some (.slice (some ⟨g, 0, none⟩) l.length cap) := by
    have : w.drew.heap[b]? = some (.cells #[p, .slice (some ⟨g, 0, none⟩) l.length cap] 45 (0, 0)) := hbk
    rw [Lib.cell_of_heap this]; rfl
  have hSD : (Builtin.unsafeSliceData_ #[35] 66 #[.slice (some ⟨g, 0, none⟩) l.length cap]).run Try.prog w.drew = .ok (.pointer (some ⟨g, 0, none⟩)) w.drew :=
    Lib.run_unsafeSliceData_row _ _ _ _ _ _ (by omega)
  have hUS : (Builtin.unsafeString_ #[66, 3] 9 #[.pointer (some ⟨g, 0, none⟩), .int .i64 l.length]).run Try.prog w.drew = .ok (.string ⟨l.toArray⟩) (w.drew.freeze ⟨g, 0, none⟩ l.length) := by
    refine Lib.run_unsafeString_row w.drew 66 3 9 5 Try.underlying66 cellsByte g cur.size (by have hg' : w.drew.heap[g]? = some (.cells cur 5 (0, 0)) := hg; simp [World.shape?, hg']) l h0 (by omega) (by unfold maxLen at hcm; omega) ?_
    intro j x hx
    have := hown.cells (g := g) rfl j (.int .u8 x.toNat) (by simp [Lib.byteCells, hx])
    exact this
  go_enter Try.func21, Try.ntmps21
  go_wp2
  go_region
  all_goals (go_wp2; go_ret; exact ⟨rfl, Lib.below_freeze (Below.drew (Below.refl B w)) (p := ⟨g, 0, none⟩) hbg _⟩)

theorem byte_fold (n j : Nat) : ((n : Int) / 2 ^ (8 * j) % 256) = ((Dig.byteAt n j).toNat : Int) := by
  rw [Dig.byteAt_eq, UInt8.toNat_ofNat', show ((n : Int) / 2 ^ (8 * j)) = ((n / 2 ^ (8 * j) : Nat) : Int) from by simp]
  omega
set_option maxHeartbeats 400000 in
theorem byteOf_any (n i m : Nat) (low : Bool) (him : i < m) (hm : m ≤ 8) (w : World) :
    Calls Try.prog 61 #[.int .u64 n, .int .i64 i, .int .i64 m, .bool low] w fun e w' => e = .returned (.int .u8 (Dig.byteAt n (Dig.placeOf low m i)).toNat) ∧ w = w' := by
  have F := Lib.hid (byte_fold n)
  cases low
  · go_enter Try.func61, Try.ntmps61
    go_wp2
    go_ret
    exact ⟨ret_int (F.out _), rfl⟩
  · go_enter Try.func61, Try.ntmps61
    go_wp2
    go_ret
    exact ⟨ret_int (F.out _), rfl⟩

theorem cell_own {w : World} {B g n cap j : Nat} {e : TypeId} {xs : List Value} {v : Value} (h : w.ownsRow B e 1 (.slice (some ⟨g, 0, none⟩) n cap) n xs) (hv : xs[j]? = some v) : w.cell? ⟨g, j, none⟩ = some v := by
  have := range_of_own h j v hv; rwa [Nat.zero_add] at this
theorem byteOf_at (x : Int) (n i m : Nat) (low : Bool) (hx : x = n) {y : Int} (hy : y = m) (him : i < m) (hm : m ≤ 8) (w : World) :
    Calls Try.prog 61 #[.int .u64 x, .int .i64 i, .int .i64 y, .bool low] w fun e w' => e = .returned (.int .u8 (Dig.byteAt n (Dig.placeOf low m i)).toNat) ∧ w = w' := by
  subst hx hy; exact byteOf_any n i m low him hm w
/-- What stands behind a text, as far as it has been laid. -/
def closeTo (low : Bool) (n k j : Nat) : List UInt8 := 128 :: (List.replicate k 0 ++ Dig.bytesTo low 8 (8 * n) j)
theorem closeTo_succ (low : Bool) (n k j : Nat) : closeTo low n k (j + 1) = closeTo low n k j ++ [Dig.byteAt (8 * n) (Dig.placeOf low 8 j)] := by
  simp [closeTo, Dig.bytesTo_succ]
theorem closing_start {w1 : World} {B g k : Nat} (low : Bool) (n : Nat) (h : w1.ownsRow B 5 1 (.slice (some ⟨g, 0, none⟩) (1 + k) 72) (1 + k) (List.replicate (1 + k) (.int .u8 0))) :
    (w1.setCell ⟨g, 0, none⟩ (.int .u8 128)).ownsRow B 5 1 (.slice (some ⟨g, 0, none⟩) (1 + k + 0) 72) (1 + k + 0) ((closeTo low n k 0).map u8v) := by
  have := (h.stored 0 (.int .u8 128)).1
  rw [show (closeTo low n k 0).map u8v = (List.replicate (1 + k) (Value.int .u8 0)).set 0 (.int .u8 128) from ?_]
  · exact this
  · rw [closeTo, Dig.bytesTo_zero, Nat.add_comm 1 k, List.replicate_succ, List.set_cons_zero, List.append_nil, List.map_cons, List.map_replicate]
    rfl
set_option maxRecDepth 100000 in
set_option maxHeartbeats 1000000 in
theorem closing_any (n : Nat) (low : Bool) (hn : n ≤ 1000000000000000) (w : World) :
    Calls Try.prog 57 #[.int .i64 n, .bool low] w fun e w' => e = .returned (.string ⟨(Dig.closing low n).toArray⟩) ∧ Below w.heap.size w w' := by
  obtain ⟨i0, hi, hz0, hz1, hz2⟩ := info_parts d_infoByte
  obtain ⟨k, hk⟩ : ∃ k, k = (119 - n % 64) % 64 := ⟨_, rfl⟩
  have hk63 : k ≤ 63 := by omega
  have e1 := Lib.hid (show (119 - (n : Int)) % 64 = k by omega)
  have hkI := Lib.hid hk
  clear hk
  go_enter Try.func57, Try.ntmps57
  go_wp2_with (refine wpList_make_row rfl 35 _ _ rfl 5 i0 (.int .u8 0) 1 Try.underlying35 hi hz0 hz1 hz2 rfl (1 + k) 72 (int64_congr (by have := e1.out; omega)) rfl (by omega) (by omega) (by omega) ?_; intro w1 hown hb1; have c0 := cell_own (j := 0) hown.out (by simp [Nat.add_comm 1 k, List.replicate_succ]; rfl); have f0 := hown.out.frozenAt 0; go_frame)
  have hs1 := closing_start low n hown.out
  have hB1 := hb1.setCell (p := ⟨w.heap.size, 0, none⟩) (Nat.le_refl _) (.int .u8 128)
  obtain ⟨w2, hw2⟩ : ∃ w2, w2 = w1.setCell ⟨w.heap.size, 0, none⟩ (.int .u8 128) := ⟨_, rfl⟩
  rw [← hw2] at hs1 hB1 ⊢
  clear hw2 hown hb1 c0 f0
  generalize (119 - (n : Int) % 64) % 64 = q1
  generalize (119 - (n : Int)) % 64 = q2
  go_loopw [6, 17] (fun v i wr => ∃ j : Nat, j ≤ 8 ∧ i = .int .i64 j ∧ v = .slice (some ⟨w.heap.size, 0, none⟩) (1 + k + j) 72 ∧
    wr.ownsRow w.heap.size 5 1 (.slice (some ⟨w.heap.size, 0, none⟩) (1 + k + j) 72) (1 + k + j) ((closeTo low n k j).map u8v) ∧ Below w.heap.size w wr) (fun _ i _ => 8 - (intOf i).toNat)
  case atStart => exact ⟨0, by omega, rfl, rfl, hs1, hB1⟩
  case round =>
    clear hs1 hB1
    obtain ⟨j, hj, rfl, rfl, hown, hB⟩ := hrel
    by_cases hlt : j < 8
    · have hsz := hB.size
      obtain ⟨c, hc⟩ : ∃ c, c = Dig.byteAt (8 * n) (Dig.placeOf low 8 j) := ⟨_, rfl⟩
      have HC := Lib.hid hc
      have HO := Lib.hid hown
      have HB := Lib.hid hB
      clear hc hown hB
      go_wp2_with (first | (go_at_call 61; refine (byteOf_at _ (8 * n) j 8 low (by omega) rfl hlt (by omega) _).mono ?_; rintro e w' ⟨rfl, rfl⟩; rw [← HC.out]) | (at_builtin; refine wpList_append_fits _ rfl _ _ 35 rfl w.heap.size 5 i0 1 Try.underlying35 hi hz1 w.heap.size (1 + k + j) 72 _ rfl (HO.out.alloc _) ⟨wr.heap.size, 0, none⟩ 1 1 [.int .u8 c.toNat] rfl rfl (cell_one_new _ _ _) (by simp [Value.oneCell']) (by omega) ?_; intro w5 h5 hg5; go_frame))
      go_roundw
      case rel =>
        refine ⟨j + 1, by omega, by go_num, rfl, ?_, ?_⟩
        · have e2 : (closeTo low n k (j + 1)).map u8v = (closeTo low n k j).map u8v ++ [.int .u8 c.toNat] := by
            rw [closeTo_succ, ← HC.out, List.map_append]; rfl
          rw [e2]; exact h5
        · exact (HB.out.alloc (by omega) _).grown hg5 (by simp; omega) (fun q hq => by cases hq; omega)
      case measure => simp [intOf]; omega
    · obtain rfl : j = 8 := by omega
      have hl : (closeTo low n k 8).length = 1 + k + 8 := by have := hown.1; simpa using this
      go_wp2_with (refine wpList_bytes_string rfl 35 9 _ rfl 5 w.heap.size 0 (1 + k + 8) 72 rfl (closeTo low n k 8) hl Try.underlying35 Try.underlying5 Try.underlying9 (range_of_own hown) ?_; go_frame)
      go_ret
      refine ⟨?_, hB⟩
      rw [show Dig.closing low n = closeTo low n k 8 from by rw [hkI.out, Dig.closing_eq]; rfl]; rfl
end Go.Proofs.Ytdimkgidaioolaa
