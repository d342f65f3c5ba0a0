/- The walk of a list that is taken apart. -/
import Derived.Test.YtkfbifondpbieaaFSplit
namespace Go.Proofs.Ytkfbifondpbieaa
open Go.RowKit

def strv (l : List UInt8) : Value := .string (bs l)
theorem infoString : (Try.prog.info? 9).map (fun i => (i.zero, i.size, i.bytes)) = some (some (.string ⟨#[]⟩), 1, 16) := by kernel_rfl
theorem own_below {w w' : World} {B n size : Nat} {e : TypeId} {v : Value} {xs : List Value} (h : w.ownsRow B e size v n xs) (hb : Below w.heap.size w w') : w'.ownsRow B e size v n xs := by
  refine ⟨h.1, ?_⟩
  rcases h.2 with h0 | ⟨g, cap, cur, h0, hB, hg, r⟩
  · exact Or.inl h0
  · exact Or.inr ⟨g, cap, cur, h0, hB, (hb.block g (lt_of_heap hg)).trans hg, r⟩
theorem run_mid {s q : ByteArray} {a n : Nat} (ha : a + 4 + n ≤ s.size) (hq : q = s.extract (a + 4) (a + 4 + n)) (w : World) :
    (Instr.slice 9 (.string s) (some (.int .i64 ((a : Int) + 4))) (some (.int .i64 ((a : Int) + 4 + (n : Int)))) none).run Try.prog w = .ok (.string q) w := by
  have := run_mid_string (P := Try.prog) w 9 s .i64 .i64 (a + 4) (a + 4 + n) Try.underlying9 (by omega) ha
  rw [hq, ← this]; congr 3 <;> simp
/-- What Split answers. -/
def SplitPost (s : ByteArray) (w : World) (e : Ending) (w' : World) : Prop :=
  (∃ p : Nat, Fr.split s.data.toList = .inl p ∧ Refused 20 p (fun v => .tuple #[.slice none 0 0, v]) w e w') ∨
  (∃ (ts : List (List UInt8)) (v : Value), Fr.split s.data.toList = .inr ts ∧ e = .returned (.tuple #[v, .nilIface]) ∧ w'.ownsRow w.heap.size 9 1 v ts.length (ts.map strv) ∧ Below w.heap.size w w')
theorem split_none {l : List UInt8} (h : Fr.cntIn l = none) : Fr.split l = .inl 0 := by unfold Fr.split; rw [h]
theorem split_at {l : List UInt8} {many p : Nat} (h : Fr.cntIn l = some many) (hp : Fr.parts l many 4 [] = .inl p) : Fr.split l = .inl p := by unfold Fr.split; rw [h]; simp only [hp]
theorem split_left {l : List UInt8} {many p : Nat} {ts : List (List UInt8)} (h : Fr.cntIn l = some many) (hp : Fr.parts l many 4 [] = .inr (ts, p)) (hl : p < l.length) : Fr.split l = .inl p := by
  unfold Fr.split; rw [h]; simp only [hp]; rw [if_pos hl]
theorem split_long {l : List UInt8} {many p : Nat} {ts : List (List UInt8)} (h : Fr.cntIn l = some many) (hp : Fr.parts l many 4 [] = .inr (ts, p)) (hl : ¬ p < l.length) (hm : 60000 < l.length) : Fr.split l = .inl 0 := by
  unfold Fr.split; rw [h]; simp only [hp]; rw [if_neg hl, if_pos hm]
theorem split_ok {l : List UInt8} {many p : Nat} {ts : List (List UInt8)} (h : Fr.cntIn l = some many) (hp : Fr.parts l many 4 [] = .inr (ts, p)) (hl : ¬ p < l.length) (hm : ¬ 60000 < l.length) : Fr.split l = .inr ts := by
  unfold Fr.split; rw [h]; simp only [hp]; rw [if_neg hl, if_neg hm]
set_option maxHeartbeats 1000000 in
theorem Split_none (s : ByteArray) (hs : s.size ≤ 281474976710656) (h : Fr.cntIn s.data.toList = none) (w : World) : Calls Try.prog 21 #[.string s] w (SplitPost s w) := by
  have hc := countAt_none s 0 (by omega) (by omega) (by rw [List.drop_zero]; exact h) w
  have HC := Lib.hid hc
  have H := Lib.hid h
  clear hc h
  go_enter Try.func21, Try.ntmps21
  go_wp2_with (first | (go_at_call 38; refine HC.out.mono ?_; rintro e w' ⟨⟨v, rfl⟩, rfl⟩) | (go_at_call 33; refine (fault_is 20 0 _).mono ?_; rintro e w' ⟨g, hg, rfl, hf, hb⟩; have HF := Lib.hid hf; have HB := Lib.hid hb; clear hf hb))
  go_ret2
  exact Or.inl ⟨0, split_none H.out, g, hg, rfl, HF.out, HB.out⟩
set_option maxRecDepth 100000 in
set_option maxHeartbeats 2000000 in
theorem Split_some (s : ByteArray) (hs : s.size ≤ 281474976710656) (many : Nat) (h : Fr.cntIn s.data.toList = some many) (w : World) : Calls Try.prog 21 #[.string s] w (SplitPost s w) := by
  obtain ⟨i0, hi, hz0, hz1, hz2⟩ := info_parts infoString
  have hc := countAt_some s 0 many (by omega) (by omega) (by rw [List.drop_zero]; exact h) w
  have h4 := Fr.cntIn_le h
  rw [size_toList] at h4
  have hm : many < 4294967296 := by rw [(Fr.cntIn_some h).2]; exact num_lt4 _ 4 (by omega)
  obtain ⟨l, hl⟩ : ∃ l, l = s.data.toList := ⟨_, rfl⟩
  have hll : l.length = s.size := by rw [hl, size_toList]
  rw [← hl] at h
  have HC := Lib.hid hc
  have H := Lib.hid h
  have HL := Lib.hid hl
  have HLL := Lib.hid hll
  clear hc h hl hll
  go_enter Try.func21, Try.ntmps21
  go_wp2_with (go_at_call 38; refine HC.out.mono ?_; rintro e w' ⟨rfl, rfl⟩)
  go_loopw [6, 7, 19] (fun v av i wr => ∃ (j a : Nat) (acc : List (List UInt8)), j ≤ many ∧ i = .int .i64 j ∧ av = .int .i64 a ∧ 4 * j + 4 ≤ a ∧ a ≤ s.size ∧ wr.ownsRow w.heap.size 9 1 v j (acc.map strv) ∧
    Fr.parts l many 4 [] = Fr.parts l (many - j) a acc ∧ Below w.heap.size w wr) (fun _ _ i _ => many - (intOf i).toNat)
  case atStart => exact ⟨0, 4, [], by omega, rfl, rfl, by omega, by omega, World.ownsRow_nil _ _ _ _, rfl, Below.refl _ _⟩
  case round =>
    obtain ⟨j, a, acc, hj, rfl, rfl, hja, has, hown, hp, hB⟩ := hrel
    by_cases hlt : j < many
    · cases hcn : Fr.cntIn (s.data.toList.drop a) with
      | none =>
        have hp2 : Fr.parts l many 4 [] = .inl a := by
          rw [hp, show many - j = (many - j - 1) + 1 by omega]
          exact Fr.parts_bad (by rw [HL.out]; exact hcn)
        have HC2 := Lib.hid (countAt_none s a has (by omega) hcn wr)
        have HP := Lib.hid hp2
        have HB := Lib.hid hB
        clear hcn hp hp2 hB hown
        go_wp2_with (first | (go_at_call 38; refine HC2.out.mono ?_; rintro e w' ⟨⟨v, rfl⟩, rfl⟩) | (go_at_call 33; refine (fault_is 20 a _).mono ?_; rintro e w' ⟨g, hg, rfl, hf, hb⟩; have HF := Lib.hid hf; have HB2 := Lib.hid hb; clear hf hb))
        go_ret2
        exact Or.inl ⟨a, by rw [← HL.out]; exact split_at H.out HP.out, g, Nat.le_trans HB.out.size hg, rfl, HF.out, HB.out.trans (HB2.out.mono HB.out.size)⟩
      | some n =>
        have hle := Fr.cntIn_le hcn
        rw [List.length_drop, size_toList] at hle
        have han : a + 4 + n ≤ s.size := by omega
        obtain ⟨q, hq⟩ : ∃ q, q = s.extract (a + 4) (a + 4 + n) := ⟨_, rfl⟩
        have hql : q.data.toList = (l.drop (a + 4)).take n := by rw [hq, extract_list, HL.out, List.drop_take]; congr 1; omega
        have hqs : q.size ≤ 281474976710656 := by
          rw [← size_toList, hql, List.length_take, List.length_drop, HLL.out]; omega
        have hmid := run_mid han hq
        have hp2 : Fr.parts l many 4 [] = Fr.parts l (many - (j + 1)) (a + 4 + n) (acc ++ [q.data.toList]) := by
          rw [hp, show many - j = (many - (j + 1)) + 1 by omega, hql]
          exact Fr.parts_ok (by rw [HL.out]; exact hcn)
        have HC2 := Lib.hid (countAt_some s a n has (by omega) hcn wr)
        have HP := Lib.hid hp2
        have HB := Lib.hid hB
        have HO := Lib.hid hown
        have HQ := Lib.hid (show strv q.data.toList = .string q by unfold strv; rw [bs_self])
        clear hcn hp hp2 hB hown hq hql hle
        go_wp2_with (first | (go_at_call 38; refine HC2.out.mono ?_; rintro e w' ⟨rfl, rfl⟩) | (go_at_call 39; refine (Clone_any q _ hqs).mono ?_; rintro e w5 ⟨rfl, hb⟩; have HO5 := Lib.hid (own_below HO.out hb); have HB5 := Lib.hid (HB.out.trans (hb.mono HB.out.size)); clear hb; have hsz5 := HB5.out.size) | (refine wpList_append_own _ rfl (.tmp 33) (.tmp 41) 38 rfl w.heap.size 9 i0 (.string ⟨#[]⟩) 1 16 Try.underlying38 hi hz0 hz1 hz2 rfl (by decide) u6 j _ rfl (HO5.out.alloc _) ⟨w5.heap.size, 0, none⟩ 1 1 [.string q] rfl rfl (news_row (heap_alloc_new _ _)) (by intro u hu; simp only [List.mem_singleton] at hu; rw [hu]; rfl) (by unfold maxLen; omega) (by omega) (by simp; omega) ?_; intro v7 w7 h7 hg7 _; have H7 := Lib.hid h7; have B7 := Lib.hid ((HB5.out.alloc (by omega) _).grown hg7 (by simp; omega) (fun k hk => (HO5.out.lt k hk).1)); clear h7 hg7; go_frame))
        go_roundw
        case rel =>
          refine ⟨j + 1, a + 4 + n, acc ++ [q.data.toList], by omega, by go_num, by go_num, by omega, han, ?_, HP.out, B7.out⟩
          rw [List.map_append, List.map_singleton, HQ.out]
          exact H7.out
        case measure => simp [intOf]; omega
    · have hjm : j = many := by omega
      have hz : many - j = 0 := by omega
      rw [hz, Fr.parts_zero] at hp
      have HP := Lib.hid hp
      have HB := Lib.hid hB
      have HO := Lib.hid hown
      have HJ := Lib.hid hjm
      clear hp hB hown hz
      by_cases hend : a < s.size
      · go_wp2_with (go_at_call 33; refine (fault_is 20 a _).mono ?_; rintro e w' ⟨g, hg, rfl, hf, hb⟩; have HF := Lib.hid hf; have HB2 := Lib.hid hb; clear hf hb)
        go_ret2
        exact Or.inl ⟨a, by rw [← HL.out]; exact split_left H.out HP.out (by rw [HLL.out]; exact hend), g, Nat.le_trans HB.out.size hg, rfl, HF.out, HB.out.trans (HB2.out.mono HB.out.size)⟩
      · by_cases hlong : 60000 < s.size
        · go_wp2_with (go_at_call 33; refine (fault_is 20 0 _).mono ?_; rintro e w' ⟨g, hg, rfl, hf, hb⟩; have HF := Lib.hid hf; have HB2 := Lib.hid hb; clear hf hb)
          go_ret2
          exact Or.inl ⟨0, by rw [← HL.out]; exact split_long H.out HP.out (by rw [HLL.out]; exact hend) (by rw [HLL.out]; exact hlong), g, Nat.le_trans HB.out.size hg, rfl, HF.out, HB.out.trans (HB2.out.mono HB.out.size)⟩
        · go_wp2_with fail
          go_ret2
          refine Or.inr ⟨acc, _, by rw [← HL.out]; exact split_ok H.out HP.out (by rw [HLL.out]; exact hend) (by rw [HLL.out]; exact hlong), rfl, ?_, HB.out⟩
          have hal : acc.length = j := by have := HO.out.1; rw [List.length_map] at this; omega
          rw [hal]; exact HO.out
theorem Split_any (s : ByteArray) (hs : s.size ≤ 281474976710656) (w : World) : Calls Try.prog 21 #[.string s] w (SplitPost s w) := by
  cases h : Fr.cntIn s.data.toList with
  | none => exact Split_none s hs h w
  | some many => exact Split_some s hs many h w
end Go.Proofs.Ytkfbifondpbieaa
