/- The walk of a text in base 64 that is read. -/
import Derived.Test.YtjalmmhbjilabaaThree
namespace Go.Proofs.Ytjalmmhbjilabaa
open Go.RowKit

/-- 'arr[:k]'. -/
theorem wpList_slice_to {P : Program} {w : World} {ops : Array Oper} {rest : List Oper} {op : Oper} {a : Act} {Q : Exit → Act → World → Prop} (hgd : op.guard = none) (T : TypeId) (x y : Operand) (ho : op.op = .slice T x none (some y) none)
    (n e : Nat) (hu : P.underlying T = some (.array n e)) (hsz : (P.info? e).map (·.size) = some 1) (b k : Nat) (hx : a.eval x = .pointer (some ⟨b, 0, none⟩)) (hy : a.eval y = .int .i64 k) (hk : k ≤ n)
    (h : wpList P ops Q rest (a.put op.dst (.slice (some ⟨b, 0, none⟩) k n)) w) : wpList P ops Q (op :: rest) a w := by
  refine wpList_run hgd _ w ?_ h
  have hl : P.arrayLen T = n := by simp [Program.arrayLen, hu]
  have he : P.elem T = e := by simp [Program.elem, hu]
  cases hq : P.info? e with
  | none => simp [hq] at hsz
  | some i =>
    have hi : i.size = 1 := by simpa [hq] using hsz
    have hrun := run_sliceAt_array_h (P := P) w T ⟨b, 0, none⟩ (by rw [hl, he]; exact hu) .i64 (k : Int) (by omega) (by rw [hl]; omega)
    have hs : (sizeOf (P.elem T)).run P w = .ok 1 w := by simp [sizeOf, typeInfo, he, hq, hi]
    rw [hs, hl] at hrun
    have hsl : slicedAt ⟨b, 0, none⟩ 0 k n 1 = .slice (some ⟨b, 0, none⟩) k n := by
      simp only [slicedAt, Nat.zero_mul, Nat.sub_zero]
      congr 2
      split
      · rfl
      · simp [Addr.add]
    simp only [Result.andThen_ok, Int.toNat_natCast, hsl] at hrun
    unfold execOp
    simp only [ho, hx, hy, Option.map_some, Option.map_none, Sem.run_bind, hrun, Result.andThen_ok]
    rfl
theorem run_four_string {P : Program} (w : World) (t : TypeId) (s : ByteArray) (k k' : IntKind) (i : Nat) (h : P.underlying t = some .string) (hi : i + 4 ≤ s.size) :
    (Instr.slice t (.string s) (some (.int k (i : Int))) (some (.int k' ((i : Int) + 4))) none).run P w = .ok (.string (s.extract i (i + 4))) w := by
  rw [run_slice_string (P := P) w t s k k' i ((i : Int) + 4) h (by omega) (by omega) (by omega)]
  congr 3
theorem run_last_string {P : Program} (w : World) (t : TypeId) (s : ByteArray) (k k' : IntKind) (i : Nat) (h : P.underlying t = some .string) (hi : i ≤ s.size) :
    (Instr.slice t (.string s) (some (.int k (i : Int))) (some (.int k' (s.size : Int))) none).run P w = .ok (.string (s.extract i s.size)) w := by
  rw [run_slice_string (P := P) w t s k k' i (s.size : Int) h (by omega) (by omega) (by omega)]
  congr 3
attribute [local go_sem high] run_four_string run_last_string

theorem wrongIn_bad (q : ByteArray) (last : Bool) (i : Nat) (h : Dig.wrong4 q.data.toList last = some i) (hq : q.size ≤ 4) (w : World) : Calls Try.prog 37 #[.string q, .bool last] w fun e w' => e = .returned (.tuple #[.int .i64 i, .bool true]) ∧ w = w' := by
  refine (wrongIn_any q last hq w).mono ?_
  rintro e w' ⟨⟨v, rfl, hv⟩, rfl⟩
  rw [h] at hv
  exact ⟨by rw [hv], rfl⟩
theorem wrongIn_good (q : ByteArray) (last : Bool) (h : Dig.wrong4 q.data.toList last = none) (hq : q.size ≤ 4) (w : World) : Calls Try.prog 37 #[.string q, .bool last] w fun e w' => (∃ k : Int, e = .returned (.tuple #[.int .i64 k, .bool false])) ∧ w = w' := by
  refine (wrongIn_any q last hq w).mono ?_
  rintro e w' ⟨⟨v, rfl, hv⟩, rfl⟩
  rw [h] at hv
  obtain ⟨k, rfl⟩ := hv
  exact ⟨⟨k, rfl⟩, rfl⟩
theorem threeOf_n (q : ByteArray) (p : Nat) (hq : q.size = 4) (hp : p + 1 = Dig.many4 q.data.toList) (w : World) :
    Calls Try.prog 38 #[.string q] w fun e w' => e = .returned (.tuple #[.agg ((Dig.full4 q.data.toList).map u8v).toArray, .int .i64 p]) ∧ Below w.heap.size w w' := by
  refine (threeOf_any q hq w).mono ?_
  rintro e w' ⟨rfl, hb⟩
  have := Dig.missTo_all (f := q.data.toList) (by rw [size_toList]; exact hq)
  exact ⟨by rw [show (3 - (Dig.missTo q.data.toList 4 : Int)) = (p : Int) from by omega], hb⟩
theorem extract_four (s : ByteArray) (l : List UInt8) (hl : l = s.data.toList) (i : Nat) : (s.extract i (i + 4)).data.toList = (l.drop i).take 4 := by
  subst hl; simp [ByteArray.data_extract, Array.toList_extract]
theorem three_laid (w2 : World) (T : TypeId) (F : List UInt8) (hF : F.length = 3) : ((w2.alloc (.cells #[Value.int .u8 0, .int .u8 0, .int .u8 0] T)).setCells w2.heap.size 0 (F.map u8v)).heap[w2.heap.size]? = some (.cells (F.map u8v).toArray T (0, 0)) := by
  rw [setCells_list (F.map u8v) 0 [Value.int .u8 0, .int .u8 0, .int .u8 0] _ (heap_alloc_new _ _), laid_whole _ _ (by simp [hF])]
theorem news_take {w : World} {g : Nat} {T : TypeId} {F : List UInt8} (h : w.heap[g]? = some (.cells (F.map u8v).toArray T (0, 0))) (p : Nat) : ∀ j u, ((F.take p).map u8v)[j]? = some u → w.cell? ((⟨g, 0, none⟩ : Addr).add j) = some u := by
  intro j u hu
  rw [Addr.add_mid, Nat.zero_add, cell_of_list h]
  rw [List.map_take, List.getElem?_take] at hu
  split at hu
  · exact hu
  · cases hu
theorem own_after {wr w2 : World} {B g tl C : Nat} {e : TypeId} {xs : List Value} {vs : List Value} {o : Obj} (h : wr.ownsRow B e 1 (.slice (some ⟨g, 0, none⟩) tl C) tl xs) (hb : Below wr.heap.size wr w2) :
    ((w2.alloc o).setCells w2.heap.size 0 vs).ownsRow B e 1 (.slice (some ⟨g, 0, none⟩) tl C) tl xs := by
  have hg := (h.lt g rfl).2
  have hz := hb.size
  exact own_heap h (by rw [setCells_other (by omega), heap_alloc_old _ _ (by omega), hb.block _ hg])
theorem agg_ones (ws : List UInt8) : ∀ v ∈ ws.map u8v, v.oneCell' = true := fun v hv => by obtain ⟨x, _, rfl⟩ := List.mem_map.1 hv; rfl

set_option maxRecDepth 100000 in
set_option maxHeartbeats 2000000 in
theorem Unbase64_any (s : ByteArray) (hs : s.size ≤ 281474976710656) (w : World) :
    Calls Try.prog 18 #[.string s] w fun e w' => e = .returned (ansOf (Dig.dec s.data.toList)) ∧ Below w.heap.size w w' := by
  obtain ⟨i0, hi, hz0, hz1, hz2⟩ := info_parts infoByte
  obtain ⟨l, hl⟩ : ∃ l, l = s.data.toList := ⟨_, rfl⟩
  have hlen : l.length = s.size := by rw [hl]; exact size_toList s
  obtain ⟨r, hr⟩ : ∃ r, r = ansOf (Dig.dec l) := ⟨_, rfl⟩
  rw [← hl, ← hr]
  have HR := Lib.hid hr
  have HL := Lib.hid hl
  have HLEN := Lib.hid hlen
  clear hr hl hlen
  obtain ⟨C, hC⟩ : ∃ C, C = s.size / 4 * 3 := ⟨_, rfl⟩
  have HC := Lib.hid hC
  have hC2 : C ≤ 281474976710656 := by omega
  clear hC
  go_enter Try.func18, Try.ntmps18
  go_wp2_with (refine wpList_make_row rfl 57 _ _ rfl 5 i0 (.int .u8 0) 1 Try.underlying57 hi hz0 hz1 hz2 rfl 0 C rfl (int64_congr (by have := HC.out; omega)) (by omega) (by omega) (by omega) ?_; intro w1 hown hb1; go_frame)
  have hown1 := hown.out
  clear hown
  go_loopw [5, 6] (fun v i wr => ∃ (k tl : Nat) (T : List UInt8), 4 * k ≤ s.size + 3 ∧ T.length = tl ∧ tl ≤ 3 * k ∧ i = .int .i64 (4 * k : Nat) ∧ v = .slice (some ⟨w.heap.size, 0, none⟩) tl C ∧ Dig.dec l = Dig.after (4 * k) T (Dig.dec (l.drop (4 * k))) ∧
    wr.ownsRow w.heap.size 5 1 (.slice (some ⟨w.heap.size, 0, none⟩) tl C) tl (T.map u8v) ∧ Below w.heap.size w wr) (fun _ i _ => s.size + 3 - (intOf i).toNat)
  case atStart => exact ⟨0, 0, [], by omega, rfl, by omega, rfl, rfl, by rw [Nat.mul_zero, List.drop_zero, Dig.after_zero], hown1, hb1⟩
  case round =>
    clear hown1 hb1
    obtain ⟨k, tl, T, hk, hT, htl, rfl, rfl, hE, hown, hB⟩ := hrel
    by_cases hlt : 4 * k < s.size
    · have hsz := hB.size
      obtain ⟨n, hn⟩ : ∃ n, n = 4 * k := ⟨_, rfl⟩
      rw [← hn] at hlt hE ⊢
      have HN := Lib.hid hn
      have HT := Lib.hid hT
      have HTL := Lib.hid htl
      have HO := Lib.hid hown
      have HB := Lib.hid hB
      have hne : l.drop n ≠ [] := by intro e; have := congrArg List.length e; rw [List.length_drop, HLEN.out, List.length_nil] at this; omega
      have hdl : (l.drop n).length = s.size - n := by rw [List.length_drop, HLEN.out]
      rw [Dig.dec_step hne, hdl] at hE
      clear hn hT htl hown hB hne hdl
      by_cases hA : s.size < n + 4
      · have hns : n ≤ s.size := by omega
        have hmin : min ((n : Int) + 4) (s.size : Int) = (s.size : Int) := by omega
        have hLi : (s.size : Int) ≤ (n : Int) + 4 := by omega
        have hq : (s.extract n s.size).data.toList = (l.drop n).take 4 := by rw [extract_rest, HL.out, List.take_of_length_le (by rw [List.length_drop, ← HL.out, HLEN.out]; omega)]
        have hqs : (s.extract n s.size).size < 4 := by have := size_toList (s.extract n s.size); rw [extract_rest, List.length_drop, size_toList] at this; omega
        rw [decide_eq_true (show s.size - n ≤ 4 by omega), ← hq] at hE
        cases hw : Dig.wrong4 (s.extract n s.size).data.toList true with
        | some i =>
          rw [Dig.decStep_bad hw, Dig.after_error] at hE
          have hi4 : i ≤ 4 := by have := Dig.wrong4_le hw; rw [size_toList] at this; omega
          have HE := Lib.hid (HR.out.trans (ansOf_error hE))
          have HW := Lib.hid hw
          have HQ := Lib.hid hqs
          clear hE hw hq hqs
          go_wp2_with (go_at_call 37; refine (wrongIn_bad _ _ i HW.out (by have := HQ.out; omega) _).mono ?_; rintro e w' ⟨rfl, rfl⟩)
          go_ret3
          exact ⟨by rw [HE.out]; rfl, HB.out⟩
        | none =>
          have := (Dig.of_wrong4 hw).2.1
          rw [size_toList] at this
          omega
      · have hn4 : n + 4 ≤ s.size := by omega
        have hmin : min ((n : Int) + 4) (s.size : Int) = (n : Int) + 4 := by omega
        have htn : ((n : Int) + 4).toNat = n + 4 := by omega
        by_cases hL : n + 4 = s.size
        · have hLi : (s.size : Int) ≤ (n : Int) + 4 := by omega
          have hL4 : s.size - n ≤ 4 := by omega
          clear hL
          have hq : (s.extract n (n + 4)).data.toList = (l.drop n).take 4 := extract_four s l HL.out n
          have hqs : (s.extract n (n + 4)).size = 4 := by have := size_toList (s.extract n (n + 4)); rw [extract_four s l HL.out n, List.length_take, List.length_drop, HLEN.out] at this; omega
          rw [decide_eq_true hL4, ← hq] at hE
          cases hw : Dig.wrong4 (s.extract n (n + 4)).data.toList true with
          | some i =>
            rw [Dig.decStep_bad hw, Dig.after_error] at hE
            have hi4 : i ≤ 4 := by have := Dig.wrong4_le hw; rw [size_toList] at this; omega
            have HE := Lib.hid (HR.out.trans (ansOf_error hE))
            have HW := Lib.hid hw
            have HQ := Lib.hid hqs
            clear hE hw hq hqs
            go_wp2_with (go_at_call 37; refine (wrongIn_bad _ _ i HW.out (by have := HQ.out; omega) _).mono ?_; rintro e w' ⟨rfl, rfl⟩)
            go_ret3
            exact ⟨by rw [HE.out]; rfl, HB.out⟩
          | none =>
            rw [Dig.decStep_good hw, Dig.after_after, List.drop_drop] at hE
            have h2 := Dig.two_of_good hw (by rw [size_toList]; exact hqs)
            have h4 := Dig.many4_le (f := (s.extract n (n + 4)).data.toList) (by rw [size_toList]; exact hqs)
            obtain ⟨p, hp⟩ : ∃ p, p + 1 = Dig.many4 (s.extract n (n + 4)).data.toList := ⟨Dig.many4 (s.extract n (n + 4)).data.toList - 1, by omega⟩
            have h3 : ((Dig.full4 (s.extract n (n + 4)).data.toList).take p).map u8v = (Dig.three4 (s.extract n (n + 4)).data.toList).map u8v := by rw [Dig.three4_eq, ← hp, Nat.add_sub_cancel]
            have hp1 : 1 ≤ p := by omega
            have hp3 : p ≤ 3 := by omega
            have hfl := Dig.length_full4 (s.extract n (n + 4)).data.toList
            have hfit : tl + p ≤ C := by have := HC.out; have := HTL.out; have := HN.out; omega
            have HW := Lib.hid hw
            have HQ := Lib.hid hqs
            have HP := Lib.hid hp
            have HE := Lib.hid hE
            have H3 := Lib.hid h3
            obtain ⟨F, hF⟩ : ∃ F, F = Dig.full4 (s.extract n (n + 4)).data.toList := ⟨_, rfl⟩
            have HF := Lib.hid hF
            rw [← hF] at hfl
            have HFL := Lib.hid hfl
            clear hE hw hq hqs hp h2 h4 h3 hF hfl
            go_wp2_with (first | (go_at_call 37; refine (wrongIn_good _ _ HW.out (by have := HQ.out; omega) _).mono ?_; rintro e w' ⟨⟨k0, rfl⟩, rfl⟩) | (go_at_call 38; refine (threeOf_n _ p HQ.out HP.out _).mono ?_; rintro e w2 ⟨rfl, hb2⟩; rw [← HF.out]; have hz2 := hb2.size) | (refine wpList_alloc rfl 63 rfl _ alloc3 ?_; go_frame) | (refine wpList_store_new rfl 63 _ _ rfl w2.heap.size (F.map u8v) _ 63 rfl rfl (heap_alloc_new _ _) (by rw [List.length_map, HFL.out]; rfl) (by rw [List.length_map, HFL.out]; kernel_rfl) (agg_ones _) ?_; go_frame) | (refine wpList_slice_to rfl 63 _ _ rfl 3 5 Try.underlying63 (by kernel_rfl) w2.heap.size p rfl rfl hp3 ?_; go_frame) | (at_builtin; refine wpList_append_fits _ rfl _ _ 57 rfl w.heap.size 5 i0 1 Try.underlying57 hi hz1 w.heap.size tl C _ rfl (own_after HO.out hb2) ⟨w2.heap.size, 0, none⟩ p 3 ((F.take p).map u8v) rfl (by rw [List.length_map, List.length_take, HFL.out]; omega) (news_take (three_laid w2 63 F HFL.out) p) (agg_ones _) hfit ?_; intro w5 h5 hg5; go_frame))
            go_roundw
            case rel =>
              refine ⟨k + 1, tl + p, T ++ Dig.three4 (s.extract n (n + 4)).data.toList, by have := HN.out; omega, ?_, by have := HTL.out; omega, ?_, rfl, ?_, ?_, ?_⟩
              · have := congrArg List.length H3.out
                rw [List.length_map, List.length_map, List.length_take, ← HF.out, HFL.out] at this
                rw [List.length_append, HT.out]; omega
              · exact int64_congr (by have := HN.out; omega)
              · rw [show 4 * (k + 1) = n + 4 from by have := HN.out; omega]; exact HE.out
              · rw [List.map_append, ← H3.out, ← HF.out]; exact h5
              · exact ((HB.out.trans (hb2.mono hsz)).alloc (by omega) _ |> fun h => below_setCells h (by omega) _ _).grown hg5 (by rw [setCells_size, World.size_alloc]; omega) (fun q hq => by cases hq; omega)
            case measure => simp [intOf]; have := HN.out; omega
        · have hLi : ¬ (s.size : Int) ≤ (n : Int) + 4 := by omega
          have hq : (s.extract n (n + 4)).data.toList = (l.drop n).take 4 := extract_four s l HL.out n
          have hqs : (s.extract n (n + 4)).size = 4 := by have := size_toList (s.extract n (n + 4)); rw [extract_four s l HL.out n, List.length_take, List.length_drop, HLEN.out] at this; omega
          rw [decide_eq_false (show ¬ s.size - n ≤ 4 by omega), ← hq] at hE
          cases hw : Dig.wrong4 (s.extract n (n + 4)).data.toList false with
          | some i =>
            rw [Dig.decStep_bad hw, Dig.after_error] at hE
            have hi4 : i ≤ 4 := by have := Dig.wrong4_le hw; rw [size_toList] at this; omega
            have HE := Lib.hid (HR.out.trans (ansOf_error hE))
            have HW := Lib.hid hw
            have HQ := Lib.hid hqs
            clear hE hw hq hqs
            go_wp2_with (go_at_call 37; refine (wrongIn_bad _ _ i HW.out (by have := HQ.out; omega) _).mono ?_; rintro e w' ⟨rfl, rfl⟩)
            go_ret3
            exact ⟨by rw [HE.out]; rfl, HB.out⟩
          | none =>
            rw [Dig.decStep_good hw, Dig.after_after, List.drop_drop] at hE
            have h2 := Dig.two_of_good hw (by rw [size_toList]; exact hqs)
            have h4 := Dig.many4_le (f := (s.extract n (n + 4)).data.toList) (by rw [size_toList]; exact hqs)
            obtain ⟨p, hp⟩ : ∃ p, p + 1 = Dig.many4 (s.extract n (n + 4)).data.toList := ⟨Dig.many4 (s.extract n (n + 4)).data.toList - 1, by omega⟩
            have h3 : ((Dig.full4 (s.extract n (n + 4)).data.toList).take p).map u8v = (Dig.three4 (s.extract n (n + 4)).data.toList).map u8v := by rw [Dig.three4_eq, ← hp, Nat.add_sub_cancel]
            have hp1 : 1 ≤ p := by omega
            have hp3 : p ≤ 3 := by omega
            have hfl := Dig.length_full4 (s.extract n (n + 4)).data.toList
            have hfit : tl + p ≤ C := by have := HC.out; have := HTL.out; have := HN.out; omega
            have HW := Lib.hid hw
            have HQ := Lib.hid hqs
            have HP := Lib.hid hp
            have HE := Lib.hid hE
            have H3 := Lib.hid h3
            obtain ⟨F, hF⟩ : ∃ F, F = Dig.full4 (s.extract n (n + 4)).data.toList := ⟨_, rfl⟩
            have HF := Lib.hid hF
            rw [← hF] at hfl
            have HFL := Lib.hid hfl
            clear hE hw hq hqs hp h2 h4 h3 hF hfl
            go_wp2_with (first | (go_at_call 37; refine (wrongIn_good _ _ HW.out (by have := HQ.out; omega) _).mono ?_; rintro e w' ⟨⟨k0, rfl⟩, rfl⟩) | (go_at_call 38; refine (threeOf_n _ p HQ.out HP.out _).mono ?_; rintro e w2 ⟨rfl, hb2⟩; rw [← HF.out]; have hz2 := hb2.size) | (refine wpList_alloc rfl 63 rfl _ alloc3 ?_; go_frame) | (refine wpList_store_new rfl 63 _ _ rfl w2.heap.size (F.map u8v) _ 63 rfl rfl (heap_alloc_new _ _) (by rw [List.length_map, HFL.out]; rfl) (by rw [List.length_map, HFL.out]; kernel_rfl) (agg_ones _) ?_; go_frame) | (refine wpList_slice_to rfl 63 _ _ rfl 3 5 Try.underlying63 (by kernel_rfl) w2.heap.size p rfl rfl hp3 ?_; go_frame) | (at_builtin; refine wpList_append_fits _ rfl _ _ 57 rfl w.heap.size 5 i0 1 Try.underlying57 hi hz1 w.heap.size tl C _ rfl (own_after HO.out hb2) ⟨w2.heap.size, 0, none⟩ p 3 ((F.take p).map u8v) rfl (by rw [List.length_map, List.length_take, HFL.out]; omega) (news_take (three_laid w2 63 F HFL.out) p) (agg_ones _) hfit ?_; intro w5 h5 hg5; go_frame))
            go_roundw
            case rel =>
              refine ⟨k + 1, tl + p, T ++ Dig.three4 (s.extract n (n + 4)).data.toList, by have := HN.out; omega, ?_, by have := HTL.out; omega, ?_, rfl, ?_, ?_, ?_⟩
              · have := congrArg List.length H3.out
                rw [List.length_map, List.length_map, List.length_take, ← HF.out, HFL.out] at this
                rw [List.length_append, HT.out]; omega
              · exact int64_congr (by have := HN.out; omega)
              · rw [show 4 * (k + 1) = n + 4 from by have := HN.out; omega]; exact HE.out
              · rw [List.map_append, ← H3.out, ← HF.out]; exact h5
              · exact ((HB.out.trans (hb2.mono hsz)).alloc (by omega) _ |> fun h => below_setCells h (by omega) _ _).grown hg5 (by rw [setCells_size, World.size_alloc]; omega) (fun q hq => by cases hq; omega)
            case measure => simp [intOf]; have := HN.out; omega
    · rw [List.drop_of_length_le (by rw [HLEN.out]; omega), Dig.dec_nil, Dig.after_fine, List.append_nil] at hE
      have HE := Lib.hid (HR.out.trans (ansOf_ok hE))
      have HO := Lib.hid hown
      have HB := Lib.hid hB
      have HT := Lib.hid hT
      clear hE hown hB hT
      go_wp2_with (refine wpList_bytes_string rfl 57 9 _ rfl 5 w.heap.size 0 tl C rfl T HT.out Try.underlying57 Try.underlying5 Try.underlying9 (range_of_own HO.out) ?_; go_frame)
      go_ret3
      exact ⟨by rw [HE.out]; rfl, HB.out⟩
end Go.Proofs.Ytjalmmhbjilabaa
