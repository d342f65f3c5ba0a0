/- The walks of records: the head, the sum, the record. -/
import Derived.Test.YtmobjpandmdmdaaGreatDoorFLaws
namespace Go.Proofs.YtmobjpandmdmdaaGreatDoor
open Go.RowKit

theorem bytesOf_bs (n k : Nat) (hk : k ≤ 8) (w : World) : Calls Tryz.prog 97 #[.int .u64 n, .int .i64 k] w fun e w' => e = .returned (.string (bs (Fr.be k n))) ∧ Below w.heap.size w w' := by
  rw [← bs_eq]; exact bytesOf_any n k hk w
theorem bytesOf4 (n : Nat) (w : World) : Calls Tryz.prog 97 #[.int .u64 n, .int .i64 4] w fun e w' => e = .returned (.string (bs (Fr.be 4 n))) ∧ Below w.heap.size w w' := bytesOf_bs n 4 (by omega) w
theorem bytesOf8 (n : Nat) (w : World) : Calls Tryz.prog 97 #[.int .u64 n, .int .i64 8] w fun e w' => e = .returned (.string (bs (Fr.be 8 n))) ∧ Below w.heap.size w w' := bytesOf_bs n 8 (by omega) w
attribute [local go_sem] bs_size Fr.length_be Fr.length_headOf Fr.length_sumOf
set_option maxHeartbeats 1000000 in
theorem headOf_ok (e n s : Nat) (he : e ≤ 4611686018427387904) (hn : n ≤ 4294967295) (hs : s ≤ 60000) (w : World) :
    Calls Tryz.prog 88 #[.int .i64 e, .int .i64 n, .int .i64 s] w fun r w' => r = .returned (.tuple #[.string (bs (Fr.headOf e n s)), .nilIface]) ∧ Below w.heap.size w w' := by
  have HB := Lib.hid (Below.refl w.heap.size w)
  go_enter Tryz.func88, Tryz.ntmps88
  go_wp2_with (go_at_call 97; (first | with_reducible refine (bytesOf4 _ _).mono ?_ | with_reducible refine (bytesOf8 _ _).mono ?_); rintro r w' ⟨rfl, hb⟩; replace HB := Lib.hid (HB.out.trans (hb.mono HB.out.size)); clear hb)
  go_ret2
  exact ⟨by first | (rw [bs_append, bs_append, Fr.headOf_eq]; rfl) | rfl, HB.out⟩
def BadHead (e n s : Int) : Prop := e < 0 ∨ 4611686018427387904 < e ∨ n < 0 ∨ 4294967295 < n ∨ 60000 < s
set_option maxHeartbeats 1000000 in
theorem headOf_bad (e n s : Int) (h : BadHead e n s) (w : World) : Calls Tryz.prog 88 #[.int .i64 e, .int .i64 n, .int .i64 s] w (Refused 1 0 (fun v => .tuple #[.string ⟨#[]⟩, v]) w) := by
  unfold BadHead at h
  by_cases h1 : e < 0
  · clear h
    go_enter Tryz.func88, Tryz.ntmps88
    go_wp2_with (go_at_call 86; refine (fault_is 1 0 _).mono ?_; rintro e w' ⟨g, hg, rfl, hf, hb⟩; have HF := Lib.hid hf; have HB := Lib.hid hb; clear hf hb)
    go_ret2
    exact ⟨g, hg, rfl, HF.out, HB.out⟩
  by_cases h2 : 4611686018427387904 < e
  · clear h
    go_enter Tryz.func88, Tryz.ntmps88
    go_wp2_with (go_at_call 86; refine (fault_is 1 0 _).mono ?_; rintro e w' ⟨g, hg, rfl, hf, hb⟩; have HF := Lib.hid hf; have HB := Lib.hid hb; clear hf hb)
    go_ret2
    exact ⟨g, hg, rfl, HF.out, HB.out⟩
  by_cases h3 : n < 0
  · clear h
    go_enter Tryz.func88, Tryz.ntmps88
    go_wp2_with (go_at_call 86; refine (fault_is 1 0 _).mono ?_; rintro e w' ⟨g, hg, rfl, hf, hb⟩; have HF := Lib.hid hf; have HB := Lib.hid hb; clear hf hb)
    go_ret2
    exact ⟨g, hg, rfl, HF.out, HB.out⟩
  by_cases h4 : 4294967295 < n
  · clear h
    go_enter Tryz.func88, Tryz.ntmps88
    go_wp2_with (go_at_call 86; refine (fault_is 1 0 _).mono ?_; rintro e w' ⟨g, hg, rfl, hf, hb⟩; have HF := Lib.hid hf; have HB := Lib.hid hb; clear hf hb)
    go_ret2
    exact ⟨g, hg, rfl, HF.out, HB.out⟩
  have h5 : 60000 < s := by omega
  clear h
  go_enter Tryz.func88, Tryz.ntmps88
  go_wp2_with (go_at_call 86; refine (fault_is 1 0 _).mono ?_; rintro e w' ⟨g, hg, rfl, hf, hb⟩; have HF := Lib.hid hf; have HB := Lib.hid hb; clear hf hb)
  go_ret2
  exact ⟨g, hg, rfl, HF.out, HB.out⟩
theorem sumOf_any (h p : ByteArray) (hh : h.size ≤ 60000) (hp : p.size ≤ 60000) (w : World) :
    Calls Tryz.prog 90 #[.string h, .string p] w fun r w' => r = .returned (.string (bs (Fr.sumOf h.data.toList p.data.toList))) ∧ Below w.heap.size w w' := by
  go_enter Tryz.func90, Tryz.ntmps90
  go_wp2_with (first | (go_at_call 99; refine (Sum_any h (by omega) _).mono ?_; rintro r w' ⟨rfl, rfl⟩) | (go_at_call 98; refine (More_any _ p (by omega) _).mono ?_; rintro r w' ⟨rfl, rfl⟩) | (go_at_call 97; refine (bytesOf_bs _ 4 (by omega) _).mono ?_; rintro r w' ⟨rfl, hb⟩; have HB := Lib.hid hb; clear hb))
  go_ret
  exact ⟨rfl, HB.out⟩
theorem whole_any (n : Nat) (hn : n ≤ 9000000000000) (w : World) : Calls Tryz.prog 89 #[.int .i64 n] w fun r w' => r = .returned (.int .i64 (Fr.whole n)) ∧ w = w' := by
  go_enter Tryz.func89, Tryz.ntmps89
  go_wp2
  go_ret
  exact ⟨ret_int (by unfold Fr.whole; omega), rfl⟩
def headL (e n : Nat) (p : List UInt8) : List UInt8 := Fr.headOf e n p.length
theorem below_kept {w a b : World} {g : Nat} (h : Below w.heap.size w a) (hk : Kept a.heap.size [g] a b) (hg : w.heap.size ≤ g) : Below w.heap.size w b :=
  ⟨hk.os.trans h.os, hk.tape.trans h.tape, hk.output.trans h.output, Nat.le_trans h.size hk.size, fun i hi => by
    rw [hk.block i (by have := h.size; omega) (by simp; omega), h.block i hi]⟩
theorem split_0 {w : World} {g N : Nat} (h : 1 ≤ N) (hg : w.heap[g]? = some (.cells ((Fr.zero N).map u8v).toArray 5 (0, 0))) : w.heap[g]? = some (.cells (Value.int .u8 0 :: (Fr.zero (N - 1)).map u8v).toArray 5 (0, 0)) := by
  rw [hg, zero_split (show N = 1 + (N - 1) by omega)]
  rw [show Fr.zero 1 = [0] from by unfold Fr.zero; rfl]
  rfl
def u4 : List UInt8 := [1, 0, 0, 0]
def put3 (a b : List UInt8) (n : Nat) : List Value := a.map u8v ++ (b.map u8v ++ (Fr.zero n).map u8v)
theorem put3_eq (a b : List UInt8) (n : Nat) : put3 a b n = a.map u8v ++ (b.map u8v ++ (Fr.zero n).map u8v) := rfl
theorem stored_0 {w : World} {g N : Nat} (h : 20 ≤ N) (hg : w.heap[g]? = some (.cells (Value.int .u8 0 :: (Fr.zero (N - 1)).map u8v).toArray 5 (0, 0))) :
    (w.setCell ⟨g, 0, none⟩ (.int .u8 1)).heap[g]? = some (.cells (u4.map u8v ++ ((Fr.zero 16).map u8v ++ (Fr.zero (N - 20)).map u8v)).toArray 5 (0, 0)) := by
  rw [set_list hg, zero_split (show N - 1 = 3 + (16 + (N - 20)) by omega), zero_add 16]
  rw [show Fr.zero 3 = [0, 0, 0] from by unfold Fr.zero; rfl]
  simp [u4]; rfl
theorem next_zero {w : World} {g n a b : Nat} {x y : List UInt8} {T : TypeId} (h : n = a + b) (hg : w.heap[g]? = some (.cells (x.map u8v ++ (y.map u8v ++ (Fr.zero n).map u8v)).toArray T (0, 0))) :
    w.heap[g]? = some (.cells ((x ++ y).map u8v ++ ((Fr.zero a).map u8v ++ (Fr.zero b).map u8v)).toArray T (0, 0)) := by
  rw [hg, zero_split h]; simp
theorem last_row {w : World} {g : Nat} {x y z : List UInt8} {T : TypeId} {fr : Nat × Nat} (h : w.heap[g]? = some (.cells (x.map u8v ++ (y.map u8v ++ z.map u8v)).toArray T fr)) : w.rangeAt g 0 ((x ++ y ++ z).map u8v) := by
  refine range_of_list (t := T) (fr := fr) ?_
  rw [h]; simp
theorem map_zero_length (n : Nat) {m : Nat} (h : n = m) : ((Fr.zero n).map u8v).length = m := by rw [List.length_map, Fr.length_zero, h]
set_option maxRecDepth 100000 in
set_option maxHeartbeats 2000000 in
theorem Pack_ok (e n : Nat) (p : ByteArray) (he : e ≤ 4611686018427387904) (hn : n ≤ 4294967295) (hp : p.size ≤ 60000) (w : World) :
    Calls Tryz.prog 83 #[.int .i64 e, .int .i64 n, .string p] w fun r w' => r = .returned (.tuple #[.string (bs (Fr.record e n p.data.toList)), .nilIface]) ∧ Below w.heap.size w w' := by
  obtain ⟨N, hN⟩ : ∃ N, N = Fr.whole p.size := ⟨_, rfl⟩
  have hN1 : 24 + p.size ≤ N := by rw [hN]; exact Fr.whole_ge _
  have hN3 : 64 ≤ N := by rw [hN]; unfold Fr.whole; omega
  have hN2 : N ≤ 60087 := by have := Fr.whole_le p.size; omega
  obtain ⟨H, hH⟩ : ∃ H, H = Fr.headOf e n p.size := ⟨_, rfl⟩
  have hHl : H.length = 16 := by rw [hH, Fr.length_headOf]
  obtain ⟨S, hS⟩ : ∃ S, S = Fr.sumOf H p.data.toList := ⟨_, rfl⟩
  have hSl : S.length = 4 := by rw [hS, Fr.length_sumOf]
  have HN := Lib.hid hN
  have HH := Lib.hid hH
  have HS := Lib.hid hS
  have HHL := Lib.hid hHl
  have HSL := Lib.hid hSl
  have HB := Lib.hid (Below.refl w.heap.size w)
  have HPL := Lib.hid (size_toList p)
  clear hN hH hS hHl hSl
  go_enter Tryz.func83, Tryz.ntmps83
  go_wp2_with (first | (go_at_call 88; refine (headOf_ok e n p.size he hn hp _).mono ?_; rintro r wa ⟨rfl, hb⟩; rw [← HH.out]; replace HB := Lib.hid (HB.out.trans (hb.mono HB.out.size)); have HG := Lib.hid HB.out.size; clear hb) | (go_at_call 89; refine (whole_any p.size (by omega) _).mono ?_; rintro r w' ⟨rfl, rfl⟩; rw [← HN.out]) | (refine wpList_make_zb rfl _ _ rfl N (by omega) rfl rfl ?_; intro w2 hh hb hs; have hh2 := split_0 (by omega) hh.out; have c0 := cell_of_list hh2 0; have f0 := free_of_list hh2 0; simp only [List.getElem?_cons_zero] at c0; have HH2 := Lib.hid hh2; replace HB := Lib.hid (HB.out.trans (hb.out.mono HB.out.size)); clear hh hh2 hb; go_frame) | (refine wpList_copy_part rfl (.tmp 29) (.tmp 30) 57 9 rfl 5 Tryz.underlying57 (by kernel_rfl) wa.heap.size 4 (N - 4) (N - 4) H (bs H) rfl rfl (bs_list H) (by have := HHL.out; omega) (u4.map u8v) ((Fr.zero 16).map u8v) ((Fr.zero (N - 20)).map u8v) 5 (stored_0 (by omega) HH2.out) rfl (map_zero_length _ HHL.out.symm) ?_; intro w3 h3 k3 s3; replace HB := Lib.hid (below_kept (HB.out.setCell (p := ⟨wa.heap.size, 0, none⟩) HG.out _) k3.out HG.out); have H3 := Lib.hid (next_zero (a := 4) (b := N - 24) (by omega) h3.out); clear h3 k3 c0 f0 HH2; go_frame))
  have hlt3 : wa.heap.size < w3.heap.size := lt_of_heap H3.out
  have hbh : (bs H).size ≤ 60000 := by rw [bs_size, HHL.out]; omega
  have hA : ((u4 ++ H).map u8v).length = 20 := by rw [List.length_map, List.length_append, HHL.out]; rfl
  have hBz : ((Fr.zero 4).map u8v).length = S.length := by rw [HSL.out]; exact map_zero_length 4 rfl
  have hSN : S.length ≤ N - 20 := by rw [HSL.out]; omega
  have e0 : Fr.sumOf (bs H).data.toList p.data.toList = S := by rw [bs_list, HS.out]
  have CS := Lib.hid (fun v : World => sumOf_any (bs H) p hbh hp v)
  rw [e0] at CS
  have hi1 : (20 : Int) ≤ (N : Int) := by omega
  have hi2 : ¬ N = 20 := by omega
  go_region_law (first | (go_simp; go_at_call 90; (with_reducible refine (CS.out _).mono ?_); rintro r w4 ⟨rfl, h4⟩; have H4 := Lib.hid ((h4.block _ hlt3).trans H3.out); have B4 := Lib.hid (HB.out.drew.trans (h4.mono HB.out.size)); clear h4) | (refine step_copy_part rfl (.tmp 33) (.tmp 36) 57 9 rfl 5 Tryz.underlying57 (by kernel_rfl) wa.heap.size 20 (N - 20) (N - 20) S (bs S) rfl rfl (bs_list S) hSN _ _ _ 5 H4.out hA hBz (some 37) rfl ?_; intro w5 h5 k5 s5))
  all_goals
    have hB5 := Lib.hid (below_kept B4.out k5.out HG.out)
    have hh5 := next_zero (a := p.size) (b := N - 24 - p.size) (by omega) h5.out
    have hA6 : ((u4 ++ H ++ S).map u8v).length = 24 := by rw [List.length_map, List.length_append, List.length_append, HHL.out, HSL.out]; rfl
    have hB6 : ((Fr.zero p.size).map u8v).length = p.data.toList.length := map_zero_length _ HPL.out.symm
    have hSN6 : p.data.toList.length ≤ N - 24 := by rw [HPL.out]; omega
    have H5 := Lib.hid hh5
    have hl6 : (u4 ++ H ++ S ++ p.data.toList ++ Fr.zero (N - 24 - p.size)).length = N := by
      rw [List.length_append, List.length_append, List.length_append, List.length_append, HHL.out, HSL.out, HPL.out, Fr.length_zero, show u4.length = 4 from rfl]; omega
    have HL6 := Lib.hid hl6
    have hi3 : ¬ N = 24 := by omega
    clear h5 k5 hh5 hl6 hi1 hi2 hA hBz hSN hlt3 HB H3 H4
    go_wp2_with (first | (refine wpList_copy_part rfl (.tmp 39) (.tmp 40) 57 9 rfl 5 Tryz.underlying57 (by kernel_rfl) wa.heap.size 24 (N - 24) (N - 24) p.data.toList p rfl rfl rfl hSN6 _ _ _ 5 H5.out hA6 hB6 ?_; intro w6 h6 k6 s6; have hB6' := Lib.hid (below_kept hB5.out k6.out HG.out); have R6 := Lib.hid (last_row h6.out); clear h6 k6; go_frame) | (refine wpList_bytes_string rfl 57 9 (.tmp 42) rfl 5 wa.heap.size 0 N N rfl _ HL6.out Tryz.underlying57 Tryz.underlying5 Tryz.underlying9 R6.out ?_; rw [bs_eq]; go_frame))
    go_ret2
    refine ⟨?_, hB6'.out⟩
    have er : Fr.record e n p.data.toList = u4 ++ H ++ S ++ p.data.toList ++ Fr.zero (N - 24 - p.size) := by
      rw [HS.out, HH.out, HN.out, ← HPL.out]; rfl
    have e' : bs (Fr.record e n p.data.toList) = ⟨(u4 ++ H ++ S ++ p.data.toList ++ Fr.zero (N - 24 - p.size)).toArray⟩ := by rw [er, bs_eq]
    rw [e']
    rfl
theorem Pack_bad (e n : Int) (p : ByteArray) (h : BadHead e n p.size) (w : World) :
    Calls Tryz.prog 83 #[.int .i64 e, .int .i64 n, .string p] w (Refused 1 0 (fun v => .tuple #[.string ⟨#[]⟩, v]) w) := by
  have H := Lib.hid h
  clear h
  go_enter Tryz.func83, Tryz.ntmps83
  go_wp2_with (go_at_call 88; refine (headOf_bad e n p.size H.out _).mono ?_; rintro r wa ⟨g, hg, rfl, hf, hb⟩; have HF := Lib.hid hf; have HB := Lib.hid hb; clear hf hb)
  go_ret2
  exact ⟨g, hg, rfl, HF.out, HB.out⟩
end Go.Proofs.YtmobjpandmdmdaaGreatDoor
