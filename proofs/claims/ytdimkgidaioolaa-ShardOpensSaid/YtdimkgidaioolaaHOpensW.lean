/- The walk of the statement ShardOpens: whatever is handed in is opened, or refused, as its bytes say. -/
import Derived.Test.YtdimkgidaioolaaHBoth
import Derived.Deep.RegionLaw
namespace Go.Proofs.Ytdimkgidaioolaa
open Go.RowKit
def flip (c : UInt8) (d : Nat) : UInt8 := UInt8.ofNat (c.toNat ^^^ 2 ^ d)
theorem flip_nat (c : UInt8) {d : Nat} (h : d < 8) : (flip c d).toNat = c.toNat ^^^ 2 ^ d := by
  have hc : c.toNat < 2 ^ 8 := c.toNat_lt
  have hd : 2 ^ d < 2 ^ 8 := Nat.pow_lt_pow_right (by decide) h
  rw [flip, UInt8.toNat_ofNat', Nat.mod_eq_of_lt (Nat.xor_lt_two_pow hc hd)]
theorem u8_flip (c : UInt8) {d : Nat} (h : d < 8) : bits .xor .u8 (c.toNat : Int) (2 ^ d % 256) = ((flip c d).toNat : Int) := by
  have hc := c.toNat_lt
  have hd : 2 ^ d < 2 ^ 8 := Nat.pow_lt_pow_right (by decide) h
  rw [show ((2 : Int) ^ d % 256) = ((2 ^ d % 256 : Nat) : Int) by simp, Nat.mod_eq_of_lt (by omega), u8_xor_nat _ _ (by omega) (by omega), flip_nat c h]
theorem RowS.put {w : World} {B g n cap : Nat} {xs : List Value} (h : RowS w B g n cap xs) (j : Nat) (v : Value) : RowS (w.setCell ⟨g, j, none⟩ v) B g n cap (xs.set j v) := by
  refine ⟨by rw [List.length_set]; exact h.len, h.low, by simp [World.setCell]; exact h.lt, h.le, h.max, fun k u hu => ?_, fun k hk => ?_, fun k hk => by rw [World.frozen?_setCell]; exact h.free k hk⟩
  · have := range_set (w := w) (g := g) (j := j) (v := v) h.told k u hu
    rwa [Nat.zero_add] at this
  · by_cases e : j = k
    · subst e
      rw [World.cell?_setCell_same' _ _ _ (h.room j hk)]; rfl
    · rw [World.cell?_setCell_other w ⟨g, j, none⟩ ⟨g, k, none⟩ v (fun e2 => e (by injection e2))]
      exact h.room k hk
set_option maxRecDepth 100000 in
set_option maxHeartbeats 4000000 in
theorem Opens_bad (nl rl tl : List UInt8) (h : SealBoth nl tl ⟨#[]⟩ 1) (a0 : Option Addr) (len cap : Nat) (w : World) :
    Calls Try.prog 4 #[.string (bs nl), .string (bs rl), .string (bs tl), .slice a0 len cap] w fun e w' => e = .returned (.bool true) ∧ Below w.heap.size w w' := by
  obtain ⟨T, c, a, h1, h2⟩ := open_both nl rl
  have C1 := Lib.hid h1
  have C2 := Lib.hid h2
  have C3 := Lib.hid h.2
  have hcmp : (T.toList == T.toList) = true := beq_self_eq_true _
  clear h h1 h2
  go_enter Try.func4, Try.ntmps4
  go_wp2_with (first | (go_at_call 7; refine (hknown_true _).mono ?_; rintro e w1 ⟨rfl, hb⟩; have HB := Lib.hid hb; clear hb) | (go_at_call 13; refine (C1.out _).mono ?_; rintro e w2 ⟨E, rfl, hE, hb⟩; have HB2 := Lib.hid (HB.out.trans (hb.mono HB.out.size)); have HE := Lib.hid hE; clear hb hE) | (go_at_call 14; refine (C2.out _).mono ?_; rintro e w3 ⟨rfl, hb⟩; have HB3 := Lib.hid (HB2.out.trans (hb.mono HB2.out.size)); have HE3 := Lib.hid (HE.out.below hb); clear hb) | (go_at_call 10; refine (is_errE HE3.out).mono ?_; rintro e w' ⟨rfl, rfl⟩) | (go_at_call 9; refine (C3.out _).mono ?_; rintro e w4 ⟨rfl, hb⟩; have HB4 := Lib.hid (HB3.out.trans (hb.mono HB3.out.size)); clear hb) | fail)
  go_ret
  exact ⟨rfl, HB4.out⟩
/-- What was handed in: numbers. -/
def Turns (a0 : Option Addr) (len : Nat) (f : Nat → Int) (w : World) : Prop := 0 < len → ∃ b o, a0 = some ⟨b, o, none⟩ ∧ b < w.heap.size ∧ ∀ j, j < len → w.cell? ⟨b, o + j, none⟩ = some (.int .i64 (f j))
set_option maxRecDepth 100000 in
set_option maxHeartbeats 8000000 in
theorem Opens_ok (nl rl tl : List UInt8) (S : List UInt8) (hS : SealBoth nl tl (bs S) 0) (hS1 : 36 ≤ S.length) (hS2 : S.length ≤ 20000) (a0 : Option Addr) (len cap : Nat) (f : Nat → Int) (hf : ∀ j, -9223372036854775808 ≤ f j ∧ f j ≤ 9223372036854775807) (hlen : len ≤ 140737488355328) (w : World) (ht : Turns a0 len f w) :
    Calls Try.prog 4 #[.string (bs nl), .string (bs rl), .string (bs tl), .slice a0 len cap] w fun e w' => e = .returned (.bool true) ∧ Below w.heap.size w w' := by
  obtain ⟨T, c, a, h1, h2⟩ := open_both nl rl
  have C1 := Lib.hid h1
  have C2 := Lib.hid h2
  have C3 := Lib.hid hS.2
  have hcmp : (T.toList == T.toList) = true := beq_self_eq_true _
  have HT := Lib.hid ht
  have HF := Lib.hid hf
  obtain ⟨Z, hZ⟩ : ∃ Z, Z = S.length := ⟨_, rfl⟩
  have hsz : (bs S).size = Z := by rw [bs_size, hZ]
  rw [← hZ] at hS1 hS2
  have HSL := Lib.hid (show (bs S).data.toList = S from bs_list S)
  have HZ := Lib.hid hZ
  clear hS h1 h2 ht hf hZ
  go_enter Try.func4, Try.ntmps4
  go_wp2_with (first | (go_at_call 7; refine (hknown_true _).mono ?_; rintro e w1 ⟨rfl, hb⟩; have HB := Lib.hid hb; clear hb) | (go_at_call 13; refine (C1.out _).mono ?_; rintro e w2 ⟨E, rfl, hE, hb⟩; have HB2 := Lib.hid (HB.out.trans (hb.mono HB.out.size)); have HE := Lib.hid hE; clear hb hE) | (go_at_call 14; refine (C2.out _).mono ?_; rintro e w3 ⟨rfl, hb⟩; have HB3 := Lib.hid (HB2.out.trans (hb.mono HB2.out.size)); have HE3 := Lib.hid (HE.out.below hb); clear hb) | (go_at_call 10; refine (is_errE HE3.out).mono ?_; rintro e w' ⟨rfl, rfl⟩) | (go_at_call 9; refine (C3.out _).mono ?_; rintro e w4 ⟨rfl, hb⟩; have HB4 := Lib.hid (HB3.out.trans (hb.mono HB3.out.size)); clear hb) | (refine wpList_string_bytes rfl 9 35 (.tmp 59) rfl 5 (bs S) rfl Try.underlying9 Try.underlying35 Try.underlying5 (by rw [hsz]; unfold maxLen; omega) ?_; intro capb w5 h5 b5; have R5 := h5.out; rw [HSL.out, hsz] at R5; rw [hsz]; have HR := Lib.hid R5; have HB5 := Lib.hid (HB4.out.trans (b5.out.mono HB4.out.size)); clear R5 h5 b5; go_frame) | fail)
  have HG := Lib.hid HB4.out.size
  go_loopw [19] (fun iv wr => ∃ j : Nat, ∃ X : List UInt8, j ≤ len ∧ iv = .int .i64 j ∧ X.length = Z ∧ RowS wr w4.heap.size w4.heap.size Z capb (X.map u8v) ∧ Below w.heap.size w wr) (fun iv _ => len - (intOf iv).toNat)
  case atStart => exact ⟨0, S, by omega, rfl, HZ.out.symm, HR.out, HB5.out⟩
  case round =>
    obtain ⟨j, X, hj, rfl, hX, hR, hB⟩ := hrel
    clear HR HB5 C1 C2 C3 HE HE3 HB HB2 HB3
    by_cases hlt : j < len ∧ j < 20
    · obtain ⟨hl1, hl2⟩ := hlt
      obtain ⟨b, o, rfl, hbl, hc⟩ := HT.out (by omega)
      have c0 := (hB.cell (p := ⟨b, o + j, none⟩) hbl).trans (hc j hl1)
      obtain ⟨hlo, hhi⟩ := HF.out j
      obtain ⟨bit, hbit⟩ : ∃ x, x = f j := ⟨_, rfl⟩
      rw [← hbit] at c0 hlo hhi
      obtain ⟨N, hN⟩ : ∃ N : Nat, (bit < 0 ∧ -(bit + 1) = N) ∨ (0 ≤ bit ∧ bit = N) := by
        by_cases h : bit < 0
        · exact ⟨(-(bit + 1)).toNat, .inl ⟨h, by omega⟩⟩
        · exact ⟨bit.toNat, .inr ⟨by omega, by omega⟩⟩
      have hNb : N ≤ 9223372036854775807 := by omega
      obtain ⟨Q, hQ⟩ : ∃ Q, Q = N / 8 := ⟨_, rfl⟩
      obtain ⟨P, hP⟩ : ∃ P, P = Q % Z := ⟨_, rfl⟩
      obtain ⟨d, hd⟩ : ∃ d, d = N % 8 := ⟨_, rfl⟩
      have q1 : (N : Int) / 8 = (Q : Int) := by omega
      have q2 : (Q : Int) % (Z : Int) = (P : Int) := by rw [hP]; simp
      have q3 : (N : Int) % 8 = (d : Int) := by omega
      have q1' : (N : Int).tdiv 8 = (Q : Int) := by rw [Int.tdiv_eq_ediv_of_nonneg (by omega)]; exact q1
      have q2' : (Q : Int).tmod (Z : Int) = (P : Int) := by rw [Int.tmod_eq_emod_of_nonneg (by omega)]; exact q2
      have q3' : (N : Int).tmod 8 = (d : Int) := by rw [Int.tmod_eq_emod_of_nonneg (by omega)]; exact q3
      have hPZ : P < Z := by rw [hP]; exact Nat.mod_lt _ (by omega)
      have hd8 : d < 8 := by omega
      obtain ⟨cc, hcc⟩ : ∃ x, x = X.getD P 0 := ⟨_, rfl⟩
      have hflip := u8_flip cc hd8
      have d0 : wr.cell? ⟨w4.heap.size, P, none⟩ = some (.int .u8 cc.toNat) := hR.told P _ (by rw [List.getElem?_map, List.getElem?_eq_getElem (by omega), hcc, List.getD, List.getElem?_eq_getElem (by omega)]; rfl)
      have f0 : wr.frozen? ⟨w4.heap.size, P, none⟩ = false := hR.free P (by have := hR.le; omega)
      have d0d : wr.drew.cell? ⟨w4.heap.size, P, none⟩ = some (.int .u8 cc.toNat) := d0
      have f0d : wr.drew.frozen? ⟨w4.heap.size, P, none⟩ = false := f0
      have HX := Lib.hid hX
      have HR2 := Lib.hid hR
      have HB2 := Lib.hid hB
      clear hX hR hB hbit hQ hP hd hcc hc
      have hZ0 : (0 : Int) < (Z : Int) := by omega
      have hPi : (P : Int) < (Z : Int) := by omega
      rcases hN with ⟨hneg, hN⟩ | ⟨hpos, hN⟩
      · go_wp2_with fail
        go_region
        all_goals
          have R3 := Lib.hid (((HR2.out.put P (.int .u8 ((flip cc d).toNat : Int))).drew))
          have B3 := Lib.hid ((HB2.out.setCell (p := ⟨w4.heap.size, P, none⟩) HG.out (.int .u8 ((flip cc d).toNat : Int))).drew)
          clear d0 f0 d0d f0d
          go_wp2_with fail
          go_roundw
          case rel => exact ⟨j + 1, X.set P (flip cc d), by omega, by go_num, by rw [List.length_set]; exact HX.out, by rw [List.map_set]; exact R3.out, B3.out⟩
          case measure => simp [intOf]; omega
      · go_wp2_with fail
        go_region
        all_goals
          have R3 := Lib.hid (((HR2.out.put P (.int .u8 ((flip cc d).toNat : Int))).drew))
          have B3 := Lib.hid ((HB2.out.setCell (p := ⟨w4.heap.size, P, none⟩) HG.out (.int .u8 ((flip cc d).toNat : Int))).drew)
          clear d0 f0 d0d f0d
          go_wp2_with fail
          go_roundw
          case rel => exact ⟨j + 1, X.set P (flip cc d), by omega, by go_num, by rw [List.length_set]; exact HX.out, by rw [List.map_set]; exact R3.out, B3.out⟩
          case measure => simp [intOf]; omega
    · obtain ⟨T2, c2, a2, h1, h2⟩ := open_both nl X
      have C4 := Lib.hid h1
      have C5 := Lib.hid h2
      have hcmp2 : (T2.toList == T2.toList) = true := beq_self_eq_true _
      have HXL := Lib.hid hX
      have RB := Lib.hid (show wr.rangeAt w4.heap.size 0 (X.map u8v) from fun k u hu => by rw [Nat.zero_add]; exact hR.told k u hu)
      have HLT := Lib.hid hR.lt
      have HB2 := Lib.hid hB
      clear hX hR hB h1 h2
      by_cases hl1 : j < len
      · have hl2 : 20 ≤ j := by omega
        clear hlt
        go_wp2_with (first | (refine wpList_bytes_string rfl 35 9 (.tmp 95) rfl 5 w4.heap.size 0 Z capb rfl X HXL.out Try.underlying35 Try.underlying5 Try.underlying9 RB.out ?_; rw [bs_eq X]; go_frame) | (go_at_call 13; refine (C4.out _).mono ?_; rintro e w6 ⟨E2, rfl, hE, hb⟩; have HB6 := Lib.hid (HB2.out.trans (hb.mono HB2.out.size)); have HE6 := Lib.hid hE; have RB6 := Lib.hid (show w6.rangeAt w4.heap.size 0 (X.map u8v) from fun k u hu => (hb.cell (p := ⟨w4.heap.size, 0 + k, none⟩) HLT.out).trans (RB.out k u hu)); clear hb hE RB) | (refine wpList_bytes_string rfl 35 9 (.tmp 102) rfl 5 w4.heap.size 0 Z capb rfl X HXL.out Try.underlying35 Try.underlying5 Try.underlying9 RB6.out ?_; rw [bs_eq X]; go_frame) | (go_at_call 14; refine (C5.out _).mono ?_; rintro e w7 ⟨rfl, hb⟩; have HB7 := Lib.hid (HB6.out.trans (hb.mono HB6.out.size)); have HE7 := Lib.hid (HE6.out.below hb); clear hb) | (go_at_call 10; refine (is_errE HE7.out).mono ?_; rintro e w' ⟨rfl, rfl⟩) | fail)
        go_ret
        exact ⟨rfl, HB7.out⟩
      · clear hlt
        go_wp2_with (first | (refine wpList_bytes_string rfl 35 9 (.tmp 95) rfl 5 w4.heap.size 0 Z capb rfl X HXL.out Try.underlying35 Try.underlying5 Try.underlying9 RB.out ?_; rw [bs_eq X]; go_frame) | (go_at_call 13; refine (C4.out _).mono ?_; rintro e w6 ⟨E2, rfl, hE, hb⟩; have HB6 := Lib.hid (HB2.out.trans (hb.mono HB2.out.size)); have HE6 := Lib.hid hE; have RB6 := Lib.hid (show w6.rangeAt w4.heap.size 0 (X.map u8v) from fun k u hu => (hb.cell (p := ⟨w4.heap.size, 0 + k, none⟩) HLT.out).trans (RB.out k u hu)); clear hb hE RB) | (refine wpList_bytes_string rfl 35 9 (.tmp 102) rfl 5 w4.heap.size 0 Z capb rfl X HXL.out Try.underlying35 Try.underlying5 Try.underlying9 RB6.out ?_; rw [bs_eq X]; go_frame) | (go_at_call 14; refine (C5.out _).mono ?_; rintro e w7 ⟨rfl, hb⟩; have HB7 := Lib.hid (HB6.out.trans (hb.mono HB6.out.size)); have HE7 := Lib.hid (HE6.out.below hb); clear hb) | (go_at_call 10; refine (is_errE HE7.out).mono ?_; rintro e w' ⟨rfl, rfl⟩) | fail)
        go_ret
        exact ⟨rfl, HB7.out⟩
end Go.Proofs.Ytdimkgidaioolaa
