/- The walks of the HMAC: a key mixed with a mask; the two sums. -/
import Derived.Test.YtjalmmhbjilabaaSum2
namespace Go.Proofs.Ytjalmmhbjilabaa
open Go.RowKit

theorem go_x8 (a b : UInt8) : bits .xor .u8 (a.toNat : Int) (b.toNat : Int) = ((Dig.x8 a b).toNat : Int) := by
  rw [u8_xor_nat _ _ (u8_lt a) (u8_lt b), Dig.x8_eq, UInt8.toNat_xor]
def zeros8 (n : Nat) : List Value := List.replicate n (.int .u8 0)
theorem length_zeros8 (n : Nat) : (zeros8 n).length = n := by simp [zeros8]
theorem allocBlock (w : World) : (Instr.alloc 48 true (.tuple #[])).run Try.prog w = .ok (.pointer (some ⟨w.heap.size, 0, none⟩)) (w.alloc (.cells (zeros8 64).toArray 48)) := by kernel_rfl
/-- 'arr[:]'. -/
theorem wpList_slice_all {P : Program} {w : World} {ops : Array Oper} {rest : List Oper} {op : Oper} {a : Act} {Q : Exit → Act → World → Prop} (hgd : op.guard = none) (T : TypeId) (x : Operand) (ho : op.op = .slice T x none none none)
    (n e : Nat) (hu : P.underlying T = some (.array n e)) (hsz : (P.info? e).map (·.size) = some 1) (b o : Nat) (hx : a.eval x = .pointer (some ⟨b, o, none⟩)) (hn : n ≠ 0)
    (h : wpList P ops Q rest (a.put op.dst (.slice (some ⟨b, o, none⟩) n n)) w) : wpList P ops Q (op :: rest) a w := by
  refine wpList_run hgd _ w ?_ h
  have hl : P.arrayLen T = n := by simp [Program.arrayLen, hu]
  have he : P.elem T = e := by simp [Program.elem, hu]
  cases hq : P.info? e with
  | none => simp [hq] at hsz
  | some i =>
    have hi : i.size = 1 := by simpa [hq] using hsz
    have hrun := run_sliceAt_array_all (P := P) w T ⟨b, o, none⟩ (by rw [hl, he]; exact hu)
    have hs : (sizeOf (P.elem T)).run P w = .ok 1 w := by simp [sizeOf, typeInfo, he, hq, hi]
    rw [hs, hl] at hrun
    simp only [Result.andThen_ok, slicedAt, Nat.zero_mul, if_neg hn, Addr.add_mid, Nat.add_zero, Nat.sub_zero] at hrun
    unfold execOp
    simp only [ho, hx, Option.map_none, Sem.run_bind, hrun, Result.andThen_ok]
    rfl
/-- The block with its first k bytes mixed. -/
def mixTo (kb : List UInt8) (m : UInt8) (k : Nat) : List UInt8 := (kb.take k).map (fun b => Dig.x8 b m) ++ kb.drop k
theorem mixTo_zero (kb : List UInt8) (m : UInt8) : mixTo kb m 0 = kb := by simp [mixTo]
theorem mixTo_all (kb : List UInt8) (m : UInt8) (n : Nat) (h : kb.length = n) : mixTo kb m n = kb.map fun b => Dig.x8 b m := by
  simp [mixTo, ← h]
theorem mixTo_succ (kb : List UInt8) (m : UInt8) (k : Nat) (h : k < kb.length) : mixTo kb m (k + 1) = (mixTo kb m k).set k (Dig.x8 (kb.getD k 0) m) := by
  have e : kb.drop k = kb[k] :: kb.drop (k + 1) := List.drop_eq_getElem_cons h
  have el : ((kb.take k).map fun b => Dig.x8 b m).length = k := by simp; omega
  have eg : kb.getD k 0 = kb[k] := by rw [List.getD, List.getElem?_eq_getElem h]; rfl
  rw [mixTo, mixTo, e, List.set_append_right _ _ (by omega), el, Nat.sub_self, List.set_cons_zero, List.take_succ_eq_append_getElem h, List.map_append, List.append_assoc, eg]
  rfl
theorem mixTo_get (kb : List UInt8) (m : UInt8) (k : Nat) (h : k < kb.length) : (mixTo kb m k)[k]? = some (kb.getD k 0) := by
  have el : ((kb.take k).map fun b => Dig.x8 b m).length = k := by simp; omega
  rw [mixTo, List.getElem?_append_right (by omega), el, Nat.sub_self, List.getElem?_drop, Nat.add_zero, List.getD, List.getElem?_eq_getElem h]; rfl
theorem length_mixTo (kb : List UInt8) (m : UInt8) (k n : Nat) (h : kb.length = n) : (mixTo kb m k).length = n := by simp [mixTo]; omega
theorem laid_zeros8 (l : List UInt8) (h : l.length ≤ 64) : laid (zeros8 64) 0 (l.map u8v) = (Dig.keyBlock l).map u8v := by
  have := laid_mid (l.map u8v) [] (List.replicate l.length (.int .u8 0)) (List.replicate (64 - l.length) (.int .u8 0)) (by simp)
  simp only [List.nil_append, List.length_nil, List.replicate_append_replicate] at this
  rw [show l.length + (64 - l.length) = 64 from by omega] at this
  rw [zeros8, this, Dig.keyBlock_eq, List.map_append, List.map_replicate]
  rfl

attribute [local go_sem] go_x8
set_option maxHeartbeats 1000000 in
theorem masked_any (s : ByteArray) (m : UInt8) (hs : s.size ≤ 64) (w : World) :
    Calls Try.prog 39 #[.string s, .int .u8 m.toNat] w fun e w' => e = .returned (.string ⟨(Dig.masked s.data.toList m).toArray⟩) ∧ Below w.heap.size w w' := by
  obtain ⟨zs, hzs⟩ : ∃ zs, zs = zeros8 64 := ⟨_, rfl⟩
  have ha := allocBlock
  rw [← hzs] at ha
  have hzl : zs.length = 64 := by rw [hzs, length_zeros8]
  have HZ := Lib.hid hzs
  have HL := Lib.hid hzl
  clear hzs hzl
  obtain ⟨kb, hkb⟩ : ∃ kb, kb = Dig.keyBlock s.data.toList := ⟨_, rfl⟩
  have hkl : kb.length = 64 := by rw [hkb]; exact Dig.length_keyBlock _ (by rw [size_toList]; exact hs)
  have HK := Lib.hid hkb
  have HKL := Lib.hid hkl
  clear hkb hkl
  go_enter Try.func39, Try.ntmps39
  go_wp2_with (first | (refine wpList_alloc rfl 48 rfl zs ha ?_; go_frame) | (refine wpList_slice_all rfl 48 (.tmp 5) rfl 64 5 Try.underlying48 (by kernel_rfl) w.heap.size 0 rfl (by omega) ?_; go_frame) | (refine wpList_copy_str rfl _ _ 57 9 rfl 5 Try.underlying57 (by kernel_rfl) w.heap.size 0 64 64 s rfl rfl (there_of_list (heap_alloc_new _ _) (by have := Nat.min_le_right s.size 64; rw [HL.out, Nat.zero_add]; exact this)) ?_; go_frame) | fail)
  have hm64 : s.size.min 64 = s.size := Nat.min_eq_left hs
  have hst : strCells s s.size = s.data.toList.map u8v := by rw [strCells, ← size_toList, List.take_length]
  obtain ⟨w1, hw1⟩ : ∃ w1, w1 = (w.alloc (.cells zs.toArray 48)).setCells w.heap.size 0 (strCells s (s.size.min 64)) := ⟨_, rfl⟩
  rw [← hw1]
  have hg1 : w1.heap[w.heap.size]? = some (.cells ((mixTo kb m 0).map u8v).toArray 48 (0, 0)) := by
    rw [hw1, hm64, hst, setCells_list _ _ _ _ (heap_alloc_new _ _), HZ.out, laid_zeros8 _ (by rw [size_toList]; exact hs), mixTo_zero, HK.out]
  have hb1 : Below w.heap.size w w1 := by rw [hw1]; exact below_setCells ((Below.refl _ _).alloc (Nat.le_refl _) _) (Nat.le_refl _) _ _
  clear hw1 hm64 hst ha
  generalize goInt (s.size.min 64 : Nat) = q1
  go_loopw [10] (fun i wr => ∃ k : Nat, k ≤ 64 ∧ i = .int .i64 k ∧ wr.heap[w.heap.size]? = some (.cells ((mixTo kb m k).map u8v).toArray 48 (0, 0)) ∧ Below w.heap.size w wr) (fun i _ => 64 - (intOf i).toNat)
  case atStart => exact ⟨0, by omega, rfl, hg1, hb1⟩
  case round =>
    clear hg1 hb1
    obtain ⟨k, hk, rfl, hG, hB⟩ := hrel
    by_cases hlt : k < 64
    · have cX : wr.cell? ⟨w.heap.size, k, none⟩ = some (u8v (kb.getD k 0)) := by
        rw [cell_of_list hG, List.getElem?_map, mixTo_get _ _ _ (by rw [HKL.out]; exact hlt)]; rfl
      have f1 := free_of_list hG k
      obtain ⟨x, hx⟩ : ∃ x, x = kb.getD k 0 := ⟨_, rfl⟩
      rw [← hx] at cX
      unfold u8v at cX
      have HX := Lib.hid hx
      have HG := Lib.hid hG
      have HB := Lib.hid hB
      clear hx hG hB
      go_wp2
      go_roundw
      case rel =>
        refine ⟨k + 1, by omega, by go_num, ?_, HB.out.setCell (by simp) _⟩
        rw [set_list HG.out, mixTo_succ _ _ _ (by rw [HKL.out]; exact hlt), List.map_set, ← HX.out]; rfl
      case measure => simp [intOf]; omega
    · obtain rfl : k = 64 := by omega
      obtain ⟨mk, hmk⟩ : ∃ mk, mk = mixTo kb m 64 := ⟨_, rfl⟩
      have hml : mk.length = 64 := by rw [hmk]; exact length_mixTo _ _ _ _ HKL.out
      have hme : mk = Dig.masked s.data.toList m := by rw [hmk, mixTo_all _ _ _ HKL.out, Dig.masked_eq, HK.out]
      rw [← hmk] at hG
      have HG := Lib.hid hG
      have HB := Lib.hid hB
      have HM := Lib.hid hme
      have HML := Lib.hid hml
      clear hmk hG hB hme hml
      go_wp2_with (first | (refine wpList_slice_all rfl 48 (.tmp 5) rfl 64 5 Try.underlying48 (by kernel_rfl) w.heap.size 0 rfl (by omega) ?_; go_frame) | (refine wpList_bytes_string rfl 57 9 _ rfl 5 w.heap.size 0 64 64 rfl mk HML.out Try.underlying57 Try.underlying5 Try.underlying9 (range_of_list HG.out) ?_; go_frame) | fail)
      go_ret
      exact ⟨by rw [← HM.out]; rfl, HB.out⟩
end Go.Proofs.Ytjalmmhbjilabaa
