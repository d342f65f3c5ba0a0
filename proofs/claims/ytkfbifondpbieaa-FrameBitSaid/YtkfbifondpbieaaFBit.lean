/- The walk of FrameBit. -/
import Derived.Test.YtkfbifondpbieaaFBitS
import Derived.Test.YtkfbifondpbieaaRRow
namespace Go.Proofs.Ytkfbifondpbieaa
open Go.RowKit

theorem range_set {w : World} {g j : Nat} {xs : List Value} {v : Value} (h : ∀ k u, xs[k]? = some u → w.cell? ⟨g, k, none⟩ = some u) : (w.setCell ⟨g, j, none⟩ v).rangeAt g 0 (xs.set j v) := by
  intro k u hu
  rw [Nat.zero_add]
  by_cases hk : j = k
  · subst hk
    have hl : j < xs.length := by
      have := (List.getElem?_eq_some_iff.1 hu).1
      rwa [List.length_set] at this
    rw [List.getElem?_set_self hl] at hu
    rw [World.cell?_setCell_same _ _ _ (h j _ (List.getElem?_eq_getElem hl)), hu]
  · rw [List.getElem?_set_ne hk] at hu
    rw [World.cell?_setCell_other w ⟨g, j, none⟩ ⟨g, k, none⟩ v (fun e => hk (by injection e))]
    exact h k u hu
theorem u8_flip (c : UInt8) {d : Nat} (h : d < 8) : bits .xor .u8 (c.toNat : Int) (2 ^ d % 256) = ((flip c d).toNat : Int) := by
  have hc := c.toNat_lt
  have hd : 2 ^ d < 2 ^ 8 := Nat.pow_lt_pow_right (by decide) h
  rw [show ((2 : Int) ^ d % 256) = ((2 ^ d % 256 : Nat) : Int) by simp, Nat.mod_eq_of_lt (by omega), u8_xor_nat _ _ (by omega) (by omega), flip_nat c h]
set_option maxRecDepth 100000 in
set_option maxHeartbeats 4000000 in
theorem Bit_walk (p : ByteArray) (bit : Int) (B : Nat) (hlo : -9223372036854775808 ≤ bit) (hhi : bit ≤ 9223372036854775807) (hB : (bit < 0 ∧ -(bit + 1) = B) ∨ (0 ≤ bit ∧ bit = B)) (w : World) :
    Calls Try.prog 8 #[.string p, .int .i64 bit] w fun e w' => e = .returned (.bool true) ∧ Below w.heap.size w w' := by
  have hc : ∀ v : World, Calls Try.prog 10 #[.string p, .int .i64 2000] v fun e w' => e = .returned (.string (bs (p.data.toList.take 2000))) ∧ v = w' := cut_any p 2000 (by omega)
  have hz := cut_size p 2000
  obtain ⟨q, hq⟩ : ∃ q, q = bs (p.data.toList.take 2000) := ⟨_, rfl⟩
  rw [← hq] at hc hz
  obtain ⟨m, hm⟩ : ∃ m, m = q.size := ⟨_, rfl⟩
  obtain ⟨r, hr⟩ : ∃ r, r = bs (Fr.record 9 3 q.data.toList) := ⟨_, rfl⟩
  have hrl : r.data.toList = Fr.record 9 3 q.data.toList := by rw [hr, bs_list]
  have hrs : r.size = Fr.whole m := by rw [← size_toList, hrl, Fr.length_record, size_toList, hm]
  have hw1 := Fr.whole_ge m
  have hw2 := Fr.whole_le m
  have hrec : IsRec r 9 3 q.data.toList := isRec 9 3 _ [] (by rw [size_toList]; omega) r (by rw [hrl, List.append_nil]) (by omega)
  have C1 := Lib.hid hc
  have C2 := Lib.hid (fun v : World => Pack_ok 9 3 q (by omega) (by omega) (by omega) v)
  rw [← hr] at C2
  have HREC := Lib.hid hrec
  have hr1 : 24 + m ≤ r.size := by omega
  have hr2 : r.size ≤ 2087 := by omega
  have hm2 : m ≤ 2000 := by omega
  have HRL := Lib.hid hrl
  have HM := Lib.hid hm
  have hqm := hm.symm
  obtain ⟨n, hn⟩ : ∃ n, n = 8 * (24 + m) := ⟨_, rfl⟩
  obtain ⟨K, hK⟩ : ∃ K, K = B % n := ⟨_, rfl⟩
  have hKn : K < n := by rw [hK]; exact Nat.mod_lt _ (by omega)
  have hKi : (B : Int).tmod (8 * (24 + (m : Int))) = (K : Int) := by
    rw [Int.tmod_eq_emod_of_nonneg (by omega), hK, hn]; simp
  clear hc hq hr hrl hrs hw1 hw2 hrec hm hK
  have hsplit : ∃ j d : Nat, (K / 8 = 0 ∨ 8 ≤ K / 8 → j = K / 8) ∧ (1 ≤ K / 8 ∧ K / 8 < 8 → j = 0) ∧ d = K % 8 := by
    by_cases h : 1 ≤ K / 8 ∧ K / 8 < 8
    · exact ⟨0, K % 8, fun h2 => by omega, fun _ => rfl, rfl⟩
    · exact ⟨K / 8, K % 8, fun _ => rfl, fun h2 => by omega, rfl⟩
  obtain ⟨j, d, hj1, hj2, hd⟩ := hsplit
  have hd8 : d < 8 := by omega
  have hdi : (K : Int) % 8 = (d : Int) := by omega
  have hj : j = 0 ∨ 8 ≤ j := by omega
  have hjm : j < 24 + m := by omega
  have hjr : j < r.size := by omega
  obtain ⟨c, hcc⟩ : ∃ c, c = r.data.toList.getD j 0 := ⟨_, rfl⟩
  have hflip := u8_flip c hd8
  have hcell : (r.data.toList.map u8v)[j]? = some (.int .u8 c.toNat) := by
    rw [List.getElem?_map, List.getElem?_eq_getElem (by rw [size_toList]; omega), hcc, List.getD, List.getElem?_eq_getElem (by rw [size_toList]; omega)]; rfl
  obtain ⟨x, hx⟩ : ∃ x, x = bs (r.data.toList.set j (flip c d)) := ⟨_, rfl⟩
  have hun : ∀ v : World, Calls Try.prog 22 #[.string x, .int .i64 9, .int .i64 3] v (Refused 20 0 (fun v => .tuple #[.string ⟨#[]⟩, .int .i64 0, v]) v) := fun v =>
    Unpack_flip r x 9 3 q.data.toList (by omega) (by omega) HREC.out j (flip c d) (by rw [hx, bs_list]) (by rw [← hcc]; exact flip_ne c hd8) hj (by rw [size_toList, ← HM.out]; exact hjm) v
  have CU := Lib.hid hun
  have HX := Lib.hid hx
  have HCELL := Lib.hid hcell
  have HJ := Lib.hid hj
  clear hx hun hcell hcc hj hd
  have hthree : (K / 8 = 0 ∧ j = 0) ∨ ((1 ≤ K / 8 ∧ K / 8 < 8) ∧ j = 0) ∨ (8 ≤ K / 8 ∧ j = K / 8) := by omega
  clear hj1 hj2
  rcases hB with ⟨hneg, hB⟩ | ⟨hpos, hB⟩
  · go_enter Try.func8, Try.ntmps8
    go_wp2_with fail
    refine (known_any _).mono ?_
    rintro e w1 ⟨rfl, hb⟩
    have HB := Lib.hid hb
    clear hb
    rcases hthree with ⟨h0, h1⟩ | ⟨⟨h0, h0'⟩, h1⟩ | ⟨h0, h1⟩
    · have k1 : (K : Int) / 8 = (j : Int) := by omega
      have k2 : ¬ (1 : Int) ≤ (j : Int) := by omega
      clear h0 h1
      go_wp2_with (first | (go_at_call 10; refine (C1.out _).mono ?_; rintro e w' ⟨rfl, rfl⟩) | (go_at_call 17; refine (C2.out _).mono ?_; rintro r w' ⟨rfl, hb⟩; replace HB := Lib.hid (HB.out.trans (hb.mono HB.out.size)); have HG := Lib.hid HB.out.size; clear hb) | (refine wpList_string_bytes rfl 9 46 (.tmp 57) rfl 5 r rfl Try.underlying9 Try.underlying46 Try.underlying5 (by unfold maxLen; omega) ?_; intro cap w2 h2 b2; have c0 := h2.out.told j _ HCELL.out; have f0 := h2.out.free j (by have := h2.out.le; omega); replace HB := Lib.hid (HB.out.trans (b2.out.mono HB.out.size)); clear b2; go_frame))
      have c0d : w2.drew.cell? ⟨w'.heap.size, j, none⟩ = some (.int .u8 c.toNat) := c0
      have f0d : w2.drew.frozen? ⟨w'.heap.size, j, none⟩ = false := f0
      go_region
      all_goals
        have R3 : Hid ((w2.setCell ⟨w'.heap.size, j, none⟩ (.int .u8 (flip c d).toNat)).drew.rangeAt w'.heap.size 0 ((r.data.toList.set j (flip c d)).map u8v)) := Lib.hid (by rw [List.map_set]; exact range_set h2.out.told)
        have B3 := Lib.hid ((HB.out.setCell (p := ⟨w'.heap.size, j, none⟩) HG.out (.int .u8 (flip c d).toNat)).drew)
        have hl : (r.data.toList.set j (flip c d)).length = r.size := by rw [List.length_set, size_toList]
        have HLS := Lib.hid hl
        clear hl
        go_wp2_with (first | (refine wpList_bytes_string rfl 46 9 (.tmp 73) rfl 5 w'.heap.size 0 r.size cap rfl (r.data.toList.set j (flip c d)) HLS.out Try.underlying46 Try.underlying5 Try.underlying9 R3.out ?_; rw [bs_eq (r.data.toList.set j (flip c d)), ← HX.out]; go_frame) | (go_at_call 22; refine (CU.out _).mono ?_; rintro e w5 ⟨g, hg, rfl, hf, hb⟩; have B5 := Lib.hid (B3.out.trans (hb.mono B3.out.size)); clear hg hf hb))
        go_ret
        exact ⟨rfl, B5.out⟩
    · have k1 : (1 : Int) ≤ (K : Int) / 8 := by omega
      have k2 : (K : Int) / 8 < 8 := by omega
      have k3 : (d : Int) / 8 = (j : Int) := by omega
      have k4 : (d : Int) % 8 = (d : Int) := by omega
      clear h0'
      clear h0 h1
      go_wp2_with (first | (go_at_call 10; refine (C1.out _).mono ?_; rintro e w' ⟨rfl, rfl⟩) | (go_at_call 17; refine (C2.out _).mono ?_; rintro r w' ⟨rfl, hb⟩; replace HB := Lib.hid (HB.out.trans (hb.mono HB.out.size)); have HG := Lib.hid HB.out.size; clear hb) | (refine wpList_string_bytes rfl 9 46 (.tmp 57) rfl 5 r rfl Try.underlying9 Try.underlying46 Try.underlying5 (by unfold maxLen; omega) ?_; intro cap w2 h2 b2; have c0 := h2.out.told j _ HCELL.out; have f0 := h2.out.free j (by have := h2.out.le; omega); replace HB := Lib.hid (HB.out.trans (b2.out.mono HB.out.size)); clear b2; go_frame))
      have c0d : w2.drew.cell? ⟨w'.heap.size, j, none⟩ = some (.int .u8 c.toNat) := c0
      have f0d : w2.drew.frozen? ⟨w'.heap.size, j, none⟩ = false := f0
      go_region
      all_goals
        have R3 : Hid ((w2.setCell ⟨w'.heap.size, j, none⟩ (.int .u8 (flip c d).toNat)).drew.rangeAt w'.heap.size 0 ((r.data.toList.set j (flip c d)).map u8v)) := Lib.hid (by rw [List.map_set]; exact range_set h2.out.told)
        have B3 := Lib.hid ((HB.out.setCell (p := ⟨w'.heap.size, j, none⟩) HG.out (.int .u8 (flip c d).toNat)).drew)
        have hl : (r.data.toList.set j (flip c d)).length = r.size := by rw [List.length_set, size_toList]
        have HLS := Lib.hid hl
        clear hl
        go_wp2_with (first | (refine wpList_bytes_string rfl 46 9 (.tmp 73) rfl 5 w'.heap.size 0 r.size cap rfl (r.data.toList.set j (flip c d)) HLS.out Try.underlying46 Try.underlying5 Try.underlying9 R3.out ?_; rw [bs_eq (r.data.toList.set j (flip c d)), ← HX.out]; go_frame) | (go_at_call 22; refine (CU.out _).mono ?_; rintro e w5 ⟨g, hg, rfl, hf, hb⟩; have B5 := Lib.hid (B3.out.trans (hb.mono B3.out.size)); clear hg hf hb))
        go_ret
        exact ⟨rfl, B5.out⟩
    · have k1 : (K : Int) / 8 = (j : Int) := by omega
      have k2 : ¬ (j : Int) < 8 := by omega
      have k3 : (1 : Int) ≤ (j : Int) := by omega
      clear h0 h1
      go_wp2_with (first | (go_at_call 10; refine (C1.out _).mono ?_; rintro e w' ⟨rfl, rfl⟩) | (go_at_call 17; refine (C2.out _).mono ?_; rintro r w' ⟨rfl, hb⟩; replace HB := Lib.hid (HB.out.trans (hb.mono HB.out.size)); have HG := Lib.hid HB.out.size; clear hb) | (refine wpList_string_bytes rfl 9 46 (.tmp 57) rfl 5 r rfl Try.underlying9 Try.underlying46 Try.underlying5 (by unfold maxLen; omega) ?_; intro cap w2 h2 b2; have c0 := h2.out.told j _ HCELL.out; have f0 := h2.out.free j (by have := h2.out.le; omega); replace HB := Lib.hid (HB.out.trans (b2.out.mono HB.out.size)); clear b2; go_frame))
      have c0d : w2.drew.cell? ⟨w'.heap.size, j, none⟩ = some (.int .u8 c.toNat) := c0
      have f0d : w2.drew.frozen? ⟨w'.heap.size, j, none⟩ = false := f0
      go_region
      all_goals
        have R3 : Hid ((w2.setCell ⟨w'.heap.size, j, none⟩ (.int .u8 (flip c d).toNat)).drew.rangeAt w'.heap.size 0 ((r.data.toList.set j (flip c d)).map u8v)) := Lib.hid (by rw [List.map_set]; exact range_set h2.out.told)
        have B3 := Lib.hid ((HB.out.setCell (p := ⟨w'.heap.size, j, none⟩) HG.out (.int .u8 (flip c d).toNat)).drew)
        have hl : (r.data.toList.set j (flip c d)).length = r.size := by rw [List.length_set, size_toList]
        have HLS := Lib.hid hl
        clear hl
        go_wp2_with (first | (refine wpList_bytes_string rfl 46 9 (.tmp 73) rfl 5 w'.heap.size 0 r.size cap rfl (r.data.toList.set j (flip c d)) HLS.out Try.underlying46 Try.underlying5 Try.underlying9 R3.out ?_; rw [bs_eq (r.data.toList.set j (flip c d)), ← HX.out]; go_frame) | (go_at_call 22; refine (CU.out _).mono ?_; rintro e w5 ⟨g, hg, rfl, hf, hb⟩; have B5 := Lib.hid (B3.out.trans (hb.mono B3.out.size)); clear hg hf hb))
        go_ret
        exact ⟨rfl, B5.out⟩
  · go_enter Try.func8, Try.ntmps8
    go_wp2_with fail
    refine (known_any _).mono ?_
    rintro e w1 ⟨rfl, hb⟩
    have HB := Lib.hid hb
    clear hb
    rcases hthree with ⟨h0, h1⟩ | ⟨⟨h0, h0'⟩, h1⟩ | ⟨h0, h1⟩
    · have k1 : (K : Int) / 8 = (j : Int) := by omega
      have k2 : ¬ (1 : Int) ≤ (j : Int) := by omega
      clear h0 h1
      go_wp2_with (first | (go_at_call 10; refine (C1.out _).mono ?_; rintro e w' ⟨rfl, rfl⟩) | (go_at_call 17; refine (C2.out _).mono ?_; rintro r w' ⟨rfl, hb⟩; replace HB := Lib.hid (HB.out.trans (hb.mono HB.out.size)); have HG := Lib.hid HB.out.size; clear hb) | (refine wpList_string_bytes rfl 9 46 (.tmp 57) rfl 5 r rfl Try.underlying9 Try.underlying46 Try.underlying5 (by unfold maxLen; omega) ?_; intro cap w2 h2 b2; have c0 := h2.out.told j _ HCELL.out; have f0 := h2.out.free j (by have := h2.out.le; omega); replace HB := Lib.hid (HB.out.trans (b2.out.mono HB.out.size)); clear b2; go_frame))
      have c0d : w2.drew.cell? ⟨w'.heap.size, j, none⟩ = some (.int .u8 c.toNat) := c0
      have f0d : w2.drew.frozen? ⟨w'.heap.size, j, none⟩ = false := f0
      go_region
      all_goals
        have R3 : Hid ((w2.setCell ⟨w'.heap.size, j, none⟩ (.int .u8 (flip c d).toNat)).drew.rangeAt w'.heap.size 0 ((r.data.toList.set j (flip c d)).map u8v)) := Lib.hid (by rw [List.map_set]; exact range_set h2.out.told)
        have B3 := Lib.hid ((HB.out.setCell (p := ⟨w'.heap.size, j, none⟩) HG.out (.int .u8 (flip c d).toNat)).drew)
        have hl : (r.data.toList.set j (flip c d)).length = r.size := by rw [List.length_set, size_toList]
        have HLS := Lib.hid hl
        clear hl
        go_wp2_with (first | (refine wpList_bytes_string rfl 46 9 (.tmp 73) rfl 5 w'.heap.size 0 r.size cap rfl (r.data.toList.set j (flip c d)) HLS.out Try.underlying46 Try.underlying5 Try.underlying9 R3.out ?_; rw [bs_eq (r.data.toList.set j (flip c d)), ← HX.out]; go_frame) | (go_at_call 22; refine (CU.out _).mono ?_; rintro e w5 ⟨g, hg, rfl, hf, hb⟩; have B5 := Lib.hid (B3.out.trans (hb.mono B3.out.size)); clear hg hf hb))
        go_ret
        exact ⟨rfl, B5.out⟩
    · have k1 : (1 : Int) ≤ (K : Int) / 8 := by omega
      have k2 : (K : Int) / 8 < 8 := by omega
      have k3 : (d : Int) / 8 = (j : Int) := by omega
      have k4 : (d : Int) % 8 = (d : Int) := by omega
      clear h0'
      clear h0 h1
      go_wp2_with (first | (go_at_call 10; refine (C1.out _).mono ?_; rintro e w' ⟨rfl, rfl⟩) | (go_at_call 17; refine (C2.out _).mono ?_; rintro r w' ⟨rfl, hb⟩; replace HB := Lib.hid (HB.out.trans (hb.mono HB.out.size)); have HG := Lib.hid HB.out.size; clear hb) | (refine wpList_string_bytes rfl 9 46 (.tmp 57) rfl 5 r rfl Try.underlying9 Try.underlying46 Try.underlying5 (by unfold maxLen; omega) ?_; intro cap w2 h2 b2; have c0 := h2.out.told j _ HCELL.out; have f0 := h2.out.free j (by have := h2.out.le; omega); replace HB := Lib.hid (HB.out.trans (b2.out.mono HB.out.size)); clear b2; go_frame))
      have c0d : w2.drew.cell? ⟨w'.heap.size, j, none⟩ = some (.int .u8 c.toNat) := c0
      have f0d : w2.drew.frozen? ⟨w'.heap.size, j, none⟩ = false := f0
      go_region
      all_goals
        have R3 : Hid ((w2.setCell ⟨w'.heap.size, j, none⟩ (.int .u8 (flip c d).toNat)).drew.rangeAt w'.heap.size 0 ((r.data.toList.set j (flip c d)).map u8v)) := Lib.hid (by rw [List.map_set]; exact range_set h2.out.told)
        have B3 := Lib.hid ((HB.out.setCell (p := ⟨w'.heap.size, j, none⟩) HG.out (.int .u8 (flip c d).toNat)).drew)
        have hl : (r.data.toList.set j (flip c d)).length = r.size := by rw [List.length_set, size_toList]
        have HLS := Lib.hid hl
        clear hl
        go_wp2_with (first | (refine wpList_bytes_string rfl 46 9 (.tmp 73) rfl 5 w'.heap.size 0 r.size cap rfl (r.data.toList.set j (flip c d)) HLS.out Try.underlying46 Try.underlying5 Try.underlying9 R3.out ?_; rw [bs_eq (r.data.toList.set j (flip c d)), ← HX.out]; go_frame) | (go_at_call 22; refine (CU.out _).mono ?_; rintro e w5 ⟨g, hg, rfl, hf, hb⟩; have B5 := Lib.hid (B3.out.trans (hb.mono B3.out.size)); clear hg hf hb))
        go_ret
        exact ⟨rfl, B5.out⟩
    · have k1 : (K : Int) / 8 = (j : Int) := by omega
      have k2 : ¬ (j : Int) < 8 := by omega
      have k3 : (1 : Int) ≤ (j : Int) := by omega
      clear h0 h1
      go_wp2_with (first | (go_at_call 10; refine (C1.out _).mono ?_; rintro e w' ⟨rfl, rfl⟩) | (go_at_call 17; refine (C2.out _).mono ?_; rintro r w' ⟨rfl, hb⟩; replace HB := Lib.hid (HB.out.trans (hb.mono HB.out.size)); have HG := Lib.hid HB.out.size; clear hb) | (refine wpList_string_bytes rfl 9 46 (.tmp 57) rfl 5 r rfl Try.underlying9 Try.underlying46 Try.underlying5 (by unfold maxLen; omega) ?_; intro cap w2 h2 b2; have c0 := h2.out.told j _ HCELL.out; have f0 := h2.out.free j (by have := h2.out.le; omega); replace HB := Lib.hid (HB.out.trans (b2.out.mono HB.out.size)); clear b2; go_frame))
      have c0d : w2.drew.cell? ⟨w'.heap.size, j, none⟩ = some (.int .u8 c.toNat) := c0
      have f0d : w2.drew.frozen? ⟨w'.heap.size, j, none⟩ = false := f0
      go_region
      all_goals
        have R3 : Hid ((w2.setCell ⟨w'.heap.size, j, none⟩ (.int .u8 (flip c d).toNat)).drew.rangeAt w'.heap.size 0 ((r.data.toList.set j (flip c d)).map u8v)) := Lib.hid (by rw [List.map_set]; exact range_set h2.out.told)
        have B3 := Lib.hid ((HB.out.setCell (p := ⟨w'.heap.size, j, none⟩) HG.out (.int .u8 (flip c d).toNat)).drew)
        have hl : (r.data.toList.set j (flip c d)).length = r.size := by rw [List.length_set, size_toList]
        have HLS := Lib.hid hl
        clear hl
        go_wp2_with (first | (refine wpList_bytes_string rfl 46 9 (.tmp 73) rfl 5 w'.heap.size 0 r.size cap rfl (r.data.toList.set j (flip c d)) HLS.out Try.underlying46 Try.underlying5 Try.underlying9 R3.out ?_; rw [bs_eq (r.data.toList.set j (flip c d)), ← HX.out]; go_frame) | (go_at_call 22; refine (CU.out _).mono ?_; rintro e w5 ⟨g, hg, rfl, hf, hb⟩; have B5 := Lib.hid (B3.out.trans (hb.mono B3.out.size)); clear hg hf hb))
        go_ret
        exact ⟨rfl, B5.out⟩
end Go.Proofs.Ytkfbifondpbieaa
