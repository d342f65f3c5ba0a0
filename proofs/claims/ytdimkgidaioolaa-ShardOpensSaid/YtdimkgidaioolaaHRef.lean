/- The walks of the document's own head of a sealed text, and of its sums. -/
import Derived.Test.YtdimkgidaioolaaHHead
import Derived.Test.YtdimkgidaioolaaRSum
namespace Go.Proofs.Ytdimkgidaioolaa
open Go.RowKit
theorem rwords_rW (w : World) : Calls Try.prog 42 #[] w fun e w' => e = .returned (.agg rW.toArray) ∧ Below w.heap.size w w' := by
  have := rwords_any w
  rw [show rW = (Dig.h256 ++ Dig.k256).map u32v from by unfold rW; rfl]
  exact this
theorem length_rW : rW.length = 72 := by unfold rW; rw [List.length_map, List.length_append, Dig.length_h256, Dig.length_k256]
theorem rW_ones : ∀ v ∈ rW, v.oneCell' = true := by unfold rW; exact u32_ones _
set_option maxRecDepth 100000 in
set_option maxHeartbeats 2000000 in
theorem rSum256_any (s : ByteArray) (hs : s.size ≤ 140737488355200) (w : World) :
    Calls Try.prog 33 #[.string s] w fun e w' => e = .returned (.string ⟨(Dig.sum256 s.data.toList).toArray⟩) ∧ Below w.heap.size w w' := by
  have hrl := length_rW
  have HRL := Lib.hid hrl
  clear hrl
  go_enter Try.func33, Try.ntmps33
  go_wp2_with fail
  refine (rwords_rW _).mono ?_
  rintro e w1 ⟨rfl, hb1⟩
  have HB1 := Lib.hid hb1
  clear hb1
  go_wp2_with (first | (refine wpList_alloc rfl 83 rfl (zeros 72) alloc72 ?_; go_frame) | (refine wpList_store_whole rfl 83 _ _ rfl w1.heap.size rW (zeros 72) 83 rfl rfl (heap_alloc_new _ _) (by rw [HRL.out, length_zeros]) (by rw [HRL.out]; kernel_rfl) rW_ones ?_; intro w2 h2 k2 s2; go_frame) | (refine wpList_load_mid rfl 83 _ rfl w1.heap.size 0 rfl rW _ (range_of_list h2.out) Try.underlying83 rfl (by rw [HRL.out]; kernel_rfl) ?_; go_frame) | fail)
  have HBW := Lib.hid (r_below_kept ((HB1.out.alloc HB1.out.size _)) k2.out HB1.out.size (by simp; have := HB1.out.size; omega))
  clear h2 k2
  refine (rsum_any s hs _).mono ?_
  rintro e w3 ⟨rfl, hb3⟩
  go_wp2_with fail
  go_ret
  exact ⟨rfl, HBW.out.trans (hb3.mono HBW.out.size)⟩
theorem f_b3 (n : Nat) : (n : Int) / 16777216 % 256 = ((Fr.byteAt n 3).toNat : Int) := byteAt_mod n 3
theorem f_b2 (n : Nat) : (n : Int) / 65536 % 256 = ((Fr.byteAt n 2).toNat : Int) := byteAt_mod n 2
theorem f_b1 (n : Nat) : (n : Int) / 256 % 256 = ((Fr.byteAt n 1).toNat : Int) := byteAt_mod n 1
theorem f_b0 (n : Nat) : (n : Int) % 256 = ((Fr.byteAt n 0).toNat : Int) := by
  have := byteAt_mod n 0
  rw [Nat.mul_zero, Int.pow_zero, Int.ediv_one] at this
  exact this
theorem be4 (n : Nat) : Fr.be 4 n = [Fr.byteAt n 3, Fr.byteAt n 2, Fr.byteAt n 1, Fr.byteAt n 0] := by rw [Fr.be_succ, Fr.be_succ, Fr.be_succ, Fr.be_succ, Fr.be_zero]
attribute [local go_sem high] f_b3 f_b2 f_b1 f_b0
attribute [local go_sem] Fr.length_zero bs_size Fr.length_be Fr.length_headOf Fr.length_sumOf
set_option maxHeartbeats 1000000 in
theorem rU32_any (n : Nat) (w : World) : Calls Try.prog 32 #[.int .i64 n] w fun e w' => e = .returned (.string (bs (Fr.be 4 n))) ∧ Below w.heap.size w w' := by
  have hr : (w.alloc (.cells #[Value.int .u8 (Fr.byteAt n 3).toNat, .int .u8 (Fr.byteAt n 2).toNat, .int .u8 (Fr.byteAt n 1).toNat, .int .u8 (Fr.byteAt n 0).toNat] 5)).rangeAt w.heap.size 0 ((Fr.be 4 n).map u8v) :=
    range_of_list (t := 5) (fr := (0, 0)) (by rw [be4]; exact heap_alloc_new _ _)
  have HR := Lib.hid hr
  have HL := Lib.hid (Fr.length_be 4 n)
  clear hr
  go_enter Try.func32, Try.ntmps32
  go_wp2_with (refine wpList_bytes_string rfl 35 9 (.tmp 14) rfl 5 w.heap.size 0 4 4 rfl (Fr.be 4 n) HL.out Try.underlying35 Try.underlying5 Try.underlying9 HR.out ?_; go_frame)
  go_ret
  exact ⟨by rw [← bs_eq]; rfl, (Below.refl _ _).alloc (Nat.le_refl _) _⟩

set_option maxRecDepth 100000 in
set_option maxHeartbeats 2000000 in
theorem rFList_any (b : Option Addr) (g n cap : Nat) (l : List (List UInt8)) (hl : (Fr.list l).length ≤ 60000) (w : World) (h : RowAt b g n l w) :
    Calls Try.prog 34 #[.slice b n cap] w fun e w' => e = .returned (.string (bs (Fr.list l))) ∧ Below w.heap.size w w' := by
  have hll := Fr.length_list l
  have hnl : n = l.length := h.1
  have hn : n ≤ 60000 := by have := Fr.many_texts l; omega
  have H := Lib.hid h
  have HL := Lib.hid hl
  have HLL := Lib.hid hll
  have HNL := Lib.hid hnl
  clear h hl hll hnl
  go_enter Try.func34, Try.ntmps34
  go_wp2_with (go_at_call 32; refine (rU32_any n _).mono ?_; rintro e w1 ⟨rfl, hb⟩; have HB := Lib.hid hb; clear hb)
  go_loopw [3, 4] (fun sv i wr => ∃ j : Nat, j ≤ n ∧ i = .int .i64 j ∧ sv = .string (bs (Fr.be 4 n ++ Fr.texts (l.take j))) ∧ Below w.heap.size w wr) (fun _ i _ => n - (intOf i).toNat)
  case atStart => exact ⟨0, by omega, rfl, by rw [List.take_zero, Fr.texts_nil, List.append_nil], HB.out⟩
  case round =>
    obtain ⟨j, hj, rfl, rfl, hB⟩ := hrel
    by_cases hlt : j < n
    · rcases H.out.2.1 with h0 | ⟨hb, hg⟩
      · omega
      subst hb
      obtain ⟨t, ht⟩ : ∃ t, t = l.getD j [] := ⟨_, rfl⟩
      have c0 := (hB.cell (p := ⟨g, j, none⟩) hg).trans (H.out.2.2 j hlt)
      rw [← ht] at c0
      unfold strv at c0
      have hts := texts_take (l := l) (j := j) (by rw [← HNL.out]; exact hlt)
      rw [← ht] at hts
      have hle := texts_take_le (l := l) (j + 1)
      obtain ⟨A, hA⟩ : ∃ A, A = Fr.be 4 n ++ Fr.texts (l.take j) := ⟨_, rfl⟩
      have hA1 : Fr.be 4 n ++ Fr.texts (l.take (j + 1)) = A ++ Fr.be 4 t.length ++ t := by rw [hts, hA]; simp
      have hAl : A.length + 4 + t.length ≤ 60000 := by
        have e : (Fr.be 4 n ++ Fr.texts (l.take (j + 1))).length = A.length + 4 + t.length := by rw [hA1, List.length_append, List.length_append, Fr.length_be]
        rw [List.length_append, Fr.length_be] at e
        have := HL.out; have := HLL.out; omega
      rw [← hA]
      have hq : (bs t).size = t.length := bs_size t
      have hq2 : (bs A).size = A.length := bs_size A
      have hq3 : (bs (Fr.be 4 t.length)).size = 4 := by rw [bs_size, Fr.length_be]
      have HA1 := Lib.hid (show bs A ++ bs (Fr.be 4 t.length) ++ bs t = bs (Fr.be 4 n ++ Fr.texts (l.take (j + 1))) by rw [hA1, bs_append, bs_append])
      have HB1 := Lib.hid hB
      have HS := Lib.hid (fun (v : World) (h : Below wr.heap.size wr v) => (h.cell (p := ⟨g, j, none⟩) (show g < wr.heap.size from Nat.lt_of_lt_of_le hg hB.size)).trans c0)
      have C := Lib.hid (fun v : World => rU32_any t.length v)
      obtain ⟨u, hu⟩ : ∃ u, u = bs (Fr.be 4 t.length) := ⟨_, rfl⟩
      rw [← hu] at C HA1 hq3
      have a1 : ∀ v : World, (Op.stringOp .add (bs A) u).run Try.prog v = .ok (.string (bs A ++ u)) v := fun v => run_string_add_sum v _ _ (by omega)
      have a2 : ∀ v : World, (Op.stringOp .add (bs A ++ u) (bs t)).run Try.prog v = .ok (.string (bs A ++ u ++ bs t)) v := fun v => run_string_add_sum v _ _ (by rw [ByteArray.size_append]; omega)
      clear hts hle hA hA1 ht hB hu
      go_wp2_with fail
      have S0 := HS.out wr (Below.refl _ _)
      go_region_held3 (fun v => v.cell? ⟨g, j, none⟩ = some (.string (bs t))) (first | exact S0 | exact HS.out _ (Below.refl _ _).drew | exact HS.out _ B2.out) (first | (go_at_call 32; refine (C.out _).mono ?_; rintro e w2 ⟨rfl, hb2⟩; have B2 := Lib.hid ((Below.refl wr.heap.size wr).drew.trans (hb2.mono (by exact Nat.le_refl _))); clear hb2) | fail)
      have HB2 := Lib.hid (HB1.out.trans (B2.out.mono HB1.out.size))
      clear S0 HS
      go_wp2_with fail
      go_roundw
      case rel => exact ⟨j + 1, by omega, by go_num, by rw [← HA1.out], HB2.out⟩
      case measure => simp [intOf]; omega
    · obtain rfl : j = n := by omega
      have hall : l.take j = l := List.take_of_length_le (by rw [← HNL.out]; exact Nat.le_refl _)
      have HE := Lib.hid (show bs (Fr.be 4 j ++ Fr.texts (l.take j)) = bs (Fr.list l) by rw [hall, Fr.list_eq, HNL.out])
      have HB := Lib.hid hB
      clear hall hB
      go_wp2_with fail
      go_ret
      exact ⟨by rw [← HE.out]; rfl, HB.out⟩
/-- The document's sum of two texts and of four, as one. -/
theorem rHash2 (a b : List UInt8) (h : a.length + b.length ≤ 50000) (g cap : Nat) (w : World) (h0 : w.cell? ⟨g, 0, none⟩ = some (.string (bs a)) ∧ w.cell? ⟨g, 1, none⟩ = some (.string (bs b))) (hg : g < w.heap.size) :
    Calls Try.prog 34 #[.slice (some ⟨g, 0, none⟩) 2 cap] w fun e w' => e = .returned (.string (bs (Fr.list [a, b]))) ∧ Below w.heap.size w w' := by
  refine rFList_any _ g 2 cap [a, b] (by rw [length_list2]; omega) w ⟨rfl, Or.inr ⟨rfl, hg⟩, fun i hi => ?_⟩
  match i, hi with
  | 0, _ => rw [h0.1]; unfold strv; rfl
  | 1, _ => rw [h0.2]; unfold strv; rfl
theorem rHash4 (a b c d : List UInt8) (h : a.length + b.length + c.length + d.length ≤ 50000) (g cap : Nat) (w : World) (h0 : (w.cell? ⟨g, 0, none⟩ = some (.string (bs a)) ∧ w.cell? ⟨g, 1, none⟩ = some (.string (bs b))) ∧ w.cell? ⟨g, 2, none⟩ = some (.string (bs c)) ∧ w.cell? ⟨g, 3, none⟩ = some (.string (bs d))) (hg : g < w.heap.size) :
    Calls Try.prog 34 #[.slice (some ⟨g, 0, none⟩) 4 cap] w fun e w' => e = .returned (.string (bs (Fr.list [a, b, c, d]))) ∧ Below w.heap.size w w' := by
  refine rFList_any _ g 4 cap [a, b, c, d] (by rw [length_list4]; omega) w ⟨rfl, Or.inr ⟨rfl, hg⟩, fun i hi => ?_⟩
  match i, hi with
  | 0, _ => rw [h0.1.1]; unfold strv; rfl
  | 1, _ => rw [h0.1.2]; unfold strv; rfl
  | 2, _ => rw [h0.2.1]; unfold strv; rfl
  | 3, _ => rw [h0.2.2]; unfold strv; rfl
theorem rSum_hash (l : List (List UInt8)) (h : (Fr.list l).length ≤ 60000) (w : World) : Calls Try.prog 33 #[.string (bs (Fr.list l))] w fun e w' => e = .returned (.string (bs (Shd.hash l))) ∧ Below w.heap.size w w' := by
  refine (rSum256_any (bs (Fr.list l)) (by rw [bs_size]; omega) w).mono ?_
  rintro e w' ⟨rfl, hb⟩
  exact ⟨by rw [bs_list, Shd.hash_eq, bs_eq], hb⟩
set_option maxRecDepth 100000 in
set_option maxHeartbeats 1000000 in
theorem rHhead_any (nm : List UInt8) (L : Nat) (hn : nm.length ≤ 220) (w : World) : Calls Try.prog 22 #[.string (bs nm), .int .i64 L] w fun e w' => e = .returned (.string (bs (Shd.head nm L))) ∧ Below w.heap.size w w' := by
  have hl := Fr.length_be 4 L
  have C0 := Lib.hid (fun v : World => rU32_any L v)
  obtain ⟨q, hq⟩ : ∃ q, q = Fr.be 4 L := ⟨_, rfl⟩
  have he : bs q ++ bs (Shd.hash [nm, q]) = bs (Shd.head nm L) := by rw [bs_append, hq]; unfold Shd.head Shd.headSum; rfl
  rw [← hq] at hl C0
  have C1 := Lib.hid (fun (v : World) (g : Nat) (h : v.cell? ⟨g, 0, none⟩ = some (.string (bs nm)) ∧ v.cell? ⟨g, 1, none⟩ = some (.string (bs q))) (hg : g < v.heap.size) => rHash2 nm q (by omega) g 2 v h hg)
  have C2 := Lib.hid (fun v : World => rSum_hash [nm, q] (by rw [length_list2]; omega) v)
  obtain ⟨F, hF⟩ : ∃ F, F = bs (Fr.list [nm, q]) := ⟨_, rfl⟩
  obtain ⟨x, hx⟩ : ∃ x, x = bs (Shd.hash [nm, q]) := ⟨_, rfl⟩
  rw [← hF] at C1 C2
  rw [← hx] at C2 he
  have HE := Lib.hid he
  have hxz : x.size = 32 := by rw [hx, bs_size, Shd.length_hash]
  have hqz : (bs q).size = 4 := by rw [bs_size, hl]
  clear he hl hq hx hF
  go_enter Try.func22, Try.ntmps22
  go_wp2_with (first | (go_at_call 32; refine (C0.out _).mono ?_; rintro e w1 ⟨rfl, hb⟩; have HB1 := Lib.hid hb; clear hb) | (go_at_call 34; refine (C1.out _ w1.heap.size (by exact two_new w1 (.string (bs nm)) (.string (bs q)) 9) (by simp)).mono ?_; rintro e w2 ⟨rfl, hb⟩; have HB2 := Lib.hid ((HB1.out.alloc HB1.out.size _).trans (hb.mono (by simp; exact Nat.le_succ_of_le HB1.out.size))); clear hb) | (go_at_call 33; refine (C2.out _).mono ?_; rintro e w3 ⟨rfl, hb⟩; have HB3 := Lib.hid (HB2.out.trans (hb.mono HB2.out.size)); clear hb) | fail)
  go_ret
  exact ⟨by rw [← HE.out]; rfl, HB3.out⟩
set_option maxRecDepth 100000 in
set_option maxHeartbeats 1000000 in
theorem rHsum_any (nm : List UInt8) (L i : Nat) (b : List UInt8) (hn : nm.length ≤ 220) (hb : b.length ≤ 200) (w : World) :
    Calls Try.prog 23 #[.string (bs nm), .int .i64 L, .int .i64 i, .string (bs b)] w fun e w' => e = .returned (.string (bs (Shd.sumOf nm L i b))) ∧ Below w.heap.size w w' := by
  have hl := Fr.length_be 4 L
  have hl2 := Fr.length_be 4 i
  have C0 := Lib.hid (fun v : World => rU32_any L v)
  have C9 := Lib.hid (fun v : World => rU32_any i v)
  obtain ⟨q, hq⟩ : ∃ q, q = Fr.be 4 L := ⟨_, rfl⟩
  obtain ⟨r, hr⟩ : ∃ r, r = Fr.be 4 i := ⟨_, rfl⟩
  have he : bs (Shd.hash [nm, q, r, b]) = bs (Shd.sumOf nm L i b) := by rw [hq, hr]; unfold Shd.sumOf; rfl
  rw [← hq] at hl C0
  rw [← hr] at hl2 C9
  have C1 := Lib.hid (fun (v : World) (g : Nat) (h : (v.cell? ⟨g, 0, none⟩ = some (.string (bs nm)) ∧ v.cell? ⟨g, 1, none⟩ = some (.string (bs q))) ∧ v.cell? ⟨g, 2, none⟩ = some (.string (bs r)) ∧ v.cell? ⟨g, 3, none⟩ = some (.string (bs b))) (hg : g < v.heap.size) => rHash4 nm q r b (by omega) g 4 v h hg)
  have C2 := Lib.hid (fun v : World => rSum_hash [nm, q, r, b] (by rw [length_list4]; omega) v)
  rw [he] at C2
  obtain ⟨F, hF⟩ : ∃ F, F = bs (Fr.list [nm, q, r, b]) := ⟨_, rfl⟩
  rw [← hF] at C1 C2
  clear he hl hl2 hq hr hF
  go_enter Try.func23, Try.ntmps23
  go_wp2_with (first | (go_at_call 32; (with_reducible refine (C0.out _).mono ?_); rintro e w1 ⟨rfl, hb⟩; have HB1 := Lib.hid hb; clear hb C0) | (go_at_call 32; (with_reducible refine (C9.out _).mono ?_); rintro e w4 ⟨rfl, hb⟩; have HB4 := Lib.hid (HB1.out.trans (hb.mono HB1.out.size)); clear hb) | (go_at_call 34; refine (C1.out _ w4.heap.size (by exact four_new w4 (.string (bs nm)) (.string (bs q)) (.string (bs r)) (.string (bs b)) 9) (by simp)).mono ?_; rintro e w2 ⟨rfl, hb⟩; have HB2 := Lib.hid ((HB4.out.alloc HB4.out.size _).trans (hb.mono (by simp; exact Nat.le_succ_of_le HB4.out.size))); clear hb) | (go_at_call 33; refine (C2.out _).mono ?_; rintro e w3 ⟨rfl, hb⟩; have HB3 := Lib.hid (HB2.out.trans (hb.mono HB2.out.size)); clear hb) | fail)
  go_ret
  exact ⟨rfl, HB3.out⟩
end Go.Proofs.Ytdimkgidaioolaa
