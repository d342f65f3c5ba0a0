/- The document's disk: a bit turned. -/
import Derived.Test.YtkpnllaegkdkkaaPKill
import Derived.Test.YtkpnllaegkdkkaaDRot
import Derived.Test.YtkpnllaegkdkkaaRRow
import Derived.BigRegion
namespace Go.Proofs.Ytkpnllaegkdkkaa
open Go.RowKit

theorem size_svr {d : ByteArray} {l : List UInt8} (h : Value.string d = sv l) : d.size = l.length := by
  simp only [sv, Value.string.injEq] at h; rw [h]; simp [ByteArray.size]
theorem rrot_dead {r q n : Nat} {hv wv : Value} {S : List (List UInt8)} {ps : List Dk.Wr} {life : Int} {w : World} (h : RAt r q hv wv n S ps true life w) (a b : Int) : Calls Try.prog 31 #[.pointer (some ⟨r, 0, none⟩), .int .i64 a, .int .i64 b] w fun e w' => e = .returned (.int .i64 11) ∧ w = w' := by
  have c4 := h.c4
  clear h
  go_enter Try.func31, Try.ntmps31
  go_wp2
  go_ret
  exact ⟨rfl, rfl⟩
theorem rrot_bad {r q n : Nat} {hv wv : Value} {S : List (List UInt8)} {ps : List Dk.Wr} {life : Int} {w : World} (h : RAt r q hv wv n S ps false life w) (a b : Int) (hab : a < 0 ∨ (n : Int) ≤ a ∨ b < 0 ∨ 512 ≤ b) : Calls Try.prog 31 #[.pointer (some ⟨r, 0, none⟩), .int .i64 a, .int .i64 b] w fun e w' => e = .returned (.int .i64 1) ∧ w = w' := by
  have c4 := h.c4
  have c1 := h.c1
  clear h
  by_cases h1 : a < 0
  · clear hab
    go_enter Try.func31, Try.ntmps31
    go_wp2
    go_ret
    exact ⟨rfl, rfl⟩
  · have h1' : 0 ≤ a := by omega
    by_cases h2 : (n : Int) ≤ a
    · clear hab h1
      go_enter Try.func31, Try.ntmps31
      go_wp2
      go_ret
      exact ⟨rfl, rfl⟩
    · have h2' : a < n := by omega
      by_cases h3 : b < 0
      · clear hab h1 h2
        go_enter Try.func31, Try.ntmps31
        go_wp2
        go_ret
        exact ⟨rfl, rfl⟩
      · have h3' : 0 ≤ b := by omega
        have h4 : 512 ≤ b := by omega
        clear hab h1 h2 h3
        go_enter Try.func31, Try.ntmps31
        go_wp2
        go_ret
        exact ⟨rfl, rfl⟩
section
variable {r q n : Nat} {S : List (List UInt8)} {ps : List Dk.Wr} {life : Int} {w : World}
set_option maxRecDepth 100000 in
set_option maxHeartbeats 1000000 in
theorem rrot_at {g cap : Nat} {wv : Value} (h : RAt r q (.slice (some ⟨g, 0, none⟩) n cap) wv n S ps false life w) (a bit : Nat) (ha : a < n) (hbit : bit < 512) :
    Calls Try.prog 31 #[.pointer (some ⟨r, 0, none⟩), .int .i64 a, .int .i64 bit] w fun e w' => e = .returned (.int .i64 0) ∧ RAt r q (.slice (some ⟨g, 0, none⟩) n cap) wv n (rotS S a bit) ps false life w' ∧ Kept w.heap.size [g] w w' := by
  have c1 := h.c1
  have c2 := h.c2
  have c4 := h.c4
  obtain ⟨ca, _⟩ := h.round a ha
  have haS : a < S.length := by rw [h.len]; exact ha
  obtain ⟨s, hs⟩ : ∃ s, s = S.getD a [] := ⟨_, rfl⟩
  have hsl : s.length = 64 := by rw [hs, List.getD, List.getElem?_eq_getElem haS]; exact h.wide _ (List.getElem_mem _)
  rw [← hs] at ca
  obtain ⟨s0, hs0⟩ : ∃ s0 : ByteArray, .string s0 = sv s := ⟨_, rfl⟩
  have hsz : s0.size = 64 := by rw [size_svr hs0]; exact hsl
  have hsd : s0.data.toList = s := by have := hs0; simp only [sv, Value.string.injEq] at this; rw [this]
  rw [← hs0] at ca
  obtain ⟨x, hx⟩ : ∃ x, x = s.getD (bit / 8) 0 := ⟨_, rfl⟩
  have hx0 : (s0.data.toList.map u8v)[bit / 8]? = some (.int .u8 x.toNat) := by
    rw [hsd, List.getElem?_map, List.getElem?_eq_getElem (by omega), hx, List.getD, List.getElem?_eq_getElem (by omega)]; rfl
  obtain ⟨k, hk⟩ : ∃ k, k = bit % 8 := ⟨_, rfl⟩
  have hk8 : k < 8 := by omega
  have hn2 := h.n2
  have H := Lib.hid h
  have HX := Lib.hid hx
  have HX0 := Lib.hid hx0
  have HK := Lib.hid hk
  have HSL := Lib.hid hsl
  have HS := Lib.hid hs
  have HSD := Lib.hid hsd
  clear h hx hx0 hk hsl hs hsd hs0 haS
  go_enter Try.func31, Try.ntmps31
  go_wp2_with (first | (refine wpList_string_bytes rfl 9 81 _ rfl 5 s0 rfl Try.underlying9 Try.underlying81 Try.underlying5 (by unfold maxLen; omega) ?_; intro bcap w1 hrow hb1; have kc : w1.cell? ⟨w.heap.size, bit / 8, none⟩ = some (.int .u8 x.toNat) := hrow.out.told _ _ HX0.out; have kf : w1.frozen? ⟨w.heap.size, bit / 8, none⟩ = false := hrow.out.free _ (by have := hrow.out.le; omega); have hle := hrow.out.le; go_frame) | fail)
  go_region
  all_goals
    have hv : Value.int IntKind.u8 (bits .xor .u8 (x.toNat : Int) (2 ^ (bit % 8) % 256)) = u8v (turnBit x k) := by
      rw [← HK.out, ← turn_fold' x k hk8]
    rw [hv]
    obtain ⟨W, hW⟩ : ∃ W, W = (w1.setCell ⟨w.heap.size, bit / 8, none⟩ (u8v (turnBit x k))).drew := ⟨_, rfl⟩
    rw [← hW]
    have hBW : Below w.heap.size w W := by rw [hW]; exact (hb1.out.setCell (Nat.le_refl _) _).drew
    have hRW : RAt r q (.slice (some ⟨g, 0, none⟩) n cap) wv n S ps false life W := H.out.keep (hBW.block r H.out.lt) (fun y hy => hBW.block y (H.out.has.lt y hy).2) (fun y hy => hBW.block y (H.out.wait.lt y hy).2)
    obtain ⟨s', hs'⟩ : ∃ s', s' = s.set (bit / 8) (turnBit x k) := ⟨_, rfl⟩
    have hrg : W.rangeAt w.heap.size 0 (s'.map u8v) := by
      intro j v hj
      rw [hs', List.map_set, List.getElem?_set, ← HSD.out] at hj
      rw [hW, Nat.zero_add]
      by_cases e : bit / 8 = j
      · subst e
        rw [if_pos rfl, if_pos (by rw [List.length_map, size_toList, hsz]; omega)] at hj
        cases hj
        exact World.cell?_setCell_same' _ _ _ (by rw [kc]; rfl)
      · rw [if_neg e] at hj
        rw [show ((w1.setCell ⟨w.heap.size, bit / 8, none⟩ (u8v (turnBit x k))).drew).cell? ⟨w.heap.size, j, none⟩ = (w1.setCell ⟨w.heap.size, bit / 8, none⟩ (u8v (turnBit x k))).cell? ⟨w.heap.size, j, none⟩ from rfl, World.cell?_setCell_other _ _ _ _ (fun hh => e (by simp at hh))]
        exact hrow.out.told j v hj
    have hsl' : s'.length = 64 := by rw [hs', List.length_set]; exact HSL.out
    have hcv : (convert 81 9 (.slice (some ⟨w.heap.size, 0, none⟩) s0.size bcap)).run Try.prog W.drew = .ok (.string ⟨s'.toArray⟩) W.drew :=
      run_bytes_string W.drew 81 9 5 w.heap.size 0 s0.size bcap s' (by rw [hsl', hsz]) Try.underlying81 Try.underlying5 Try.underlying9 hrg
    obtain ⟨t, ht⟩ : ∃ t : ByteArray, t = ⟨s'.toArray⟩ := ⟨_, rfl⟩
    rw [← ht, hsz] at hcv
    have d2 := hRW.c2
    obtain ⟨da, df⟩ := hRW.round a ha
    obtain ⟨old, hold⟩ : ∃ old : ByteArray, .string old = sv (S.getD a []) := ⟨_, rfl⟩
    rw [← hold] at da
    have HRW := Lib.hid hRW
    have HBW := Lib.hid hBW
    have HT := Lib.hid ht
    have HSS := Lib.hid hs'
    have HSL' := Lib.hid hsl'
    clear hRW hBW ht hs' hsl' hrg hold hW hv kc kf c1 c2 c4 ca hrow hb1
    go_wp2
    go_region
    all_goals
      go_wp2
      go_ret
      obtain ⟨hp, hk⟩ := HRW.out.put a s' HSL'.out
      have e1 : sv s' = .string t := by rw [HT.out]; rfl
      rw [e1] at hp hk
      refine ⟨rfl, ?_, ((Kept.of_below HBW.out).trans (hk.mono HBW.out.size (fun _ _ h => h))).drew⟩
      rw [rotS, ← HS.out, ← HX.out, ← HK.out, ← HSS.out]
      exact hp.keep rfl (fun _ _ => rfl) (fun _ _ => rfl)
theorem rrot_ok {G : List Nat} (h : RDisk r q G n S ps false life w) (a bit : Nat) (ha : a < n) (hbit : bit < 512) :
    Calls Try.prog 31 #[.pointer (some ⟨r, 0, none⟩), .int .i64 a, .int .i64 bit] w fun e w' => e = .returned (.int .i64 0) ∧ RDisk r q G n (rotS S a bit) ps false life w' ∧ Kept w.heap.size G w w' := by
  obtain ⟨hv, wv, h, g1, g2, g3, g4, g5⟩ := h
  obtain ⟨g, cap, rfl, _, _⟩ := h.row
  refine (rrot_at h a bit ha hbit).mono ?_
  rintro e w' ⟨rfl, hl, hk⟩
  have hz := hk.size
  refine ⟨rfl, ⟨_, wv, hl, g1, g2, g3, g4, fun x hx => by have := g5 x hx; omega⟩, hk.mono (Nat.le_refl _) (fun x _ hm => ?_)⟩
  simp only [List.mem_cons, List.not_mem_nil, or_false] at hm
  exact hm ▸ g2 _ rfl
end
end Go.Proofs.Ytkpnllaegkdkkaa
