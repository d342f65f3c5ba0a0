/- The walk of a list that is made. -/
import Derived.Test.YtdimkgidaioolaaFSplit2
namespace Go.Proofs.Ytdimkgidaioolaa
open Go.RowKit

theorem allocBuilder (w : World) : (Instr.alloc 45 true (.tuple #[])).run Try.prog w = .ok (.pointer (some ⟨w.heap.size, 0, none⟩)) (w.alloc (.cells [Value.pointer none, .slice none 0 0].toArray 45)) := by kernel_rfl
theorem Built.below {b : Nat} {l : List UInt8} {w w' : World} (h : Built b l w) (hb : Below w.heap.size w w') : Built b l w' := by
  obtain ⟨hB, v, hbk, hown, hne⟩ := h
  exact ⟨hB, v, (hb.block b (lt_of_heap hbk)).trans hbk, own_below hown hb, hne⟩
/-- The texts that lie in a row. -/
def RowAt (b : Option Addr) (g n : Nat) (l : List (List UInt8)) (w : World) : Prop :=
  n = l.length ∧ (n = 0 ∨ (b = some ⟨g, 0, none⟩ ∧ g < w.heap.size)) ∧ ∀ i, i < n → w.cell? ⟨g, i, none⟩ = some (strv (l.getD i []))
theorem RowAt.of_own {w : World} {B : Nat} {v : Value} {l : List (List UInt8)} (h : w.ownsRow B 9 1 v l.length (l.map strv)) : ∃ b g cap, v = .slice b l.length cap ∧ RowAt b g l.length l w := by
  rcases h.2 with ⟨hv, h0⟩ | ⟨g, cap, cur, hv, _, hg, _⟩
  · exact ⟨none, 0, 0, by rw [hv, h0], rfl, Or.inl h0, fun i hi => by omega⟩
  · subst hv
    refine ⟨_, g, cap, rfl, rfl, Or.inr ⟨rfl, lt_of_heap hg⟩, fun i hi => ?_⟩
    rw [h.cellAt i (by omega), List.getElem?_map, List.getD, List.getElem?_eq_getElem hi]; rfl
theorem RowAt.below {b : Option Addr} {g n : Nat} {l : List (List UInt8)} {w w' : World} {B : Nat} (h : RowAt b g n l w) (hB : w.heap.size ≤ B) (hb : Below B w w') : RowAt b g n l w' := by
  refine ⟨h.1, ?_, fun i hi => ?_⟩
  · rcases h.2.1 with h0 | ⟨h1, h2⟩
    · exact Or.inl h0
    · exact Or.inr ⟨h1, by have := hb.size; omega⟩
  · rcases h.2.1 with h0 | ⟨h1, h2⟩
    · omega
    · rw [hb.cell (p := ⟨g, i, none⟩) (by omega : g < B)]; exact h.2.2 i hi
theorem texts_take {l : List (List UInt8)} {j : Nat} (h : j < l.length) : Fr.texts (l.take (j + 1)) = Fr.texts (l.take j) ++ (Fr.be 4 (l.getD j []).length ++ l.getD j []) := by
  rw [List.take_succ_eq_append_getElem h, Fr.texts_snoc, List.getD, List.getElem?_eq_getElem h]; rfl
theorem texts_take_le {l : List (List UInt8)} (j : Nat) : (Fr.texts (l.take j)).length ≤ (Fr.texts l).length := by
  have e : Fr.texts l = Fr.texts (l.take j) ++ Fr.texts (l.drop j) := by
    conv => lhs; rw [← List.take_append_drop j l]
    unfold Fr.texts; rw [List.flatMap_append]
  rw [e, List.length_append]; omega
set_option maxRecDepth 100000 in
set_option maxHeartbeats 2000000 in
theorem List_ok (b : Option Addr) (g n cap : Nat) (l : List (List UInt8)) (hl : (Fr.list l).length ≤ 60000) (w : World) (h : RowAt b g n l w) :
    Calls Try.prog 40 #[.slice b n cap] w fun e w' => e = .returned (.tuple #[.string (bs (Fr.list l)), .nilIface]) ∧ Below w.heap.size w w' := by
  have hll := Fr.length_list l
  have hnl : n = l.length := h.1
  have hn : n ≤ 60000 := by have := Fr.many_texts l; omega
  have H := Lib.hid h
  have HL := Lib.hid hl
  have HLL := Lib.hid hll
  have HNL := Lib.hid hnl
  clear h hl hll hnl
  go_enter Try.func40, Try.ntmps40
  go_wp2_with fail
  go_loopw [4, 12] (fun sv i wr => ∃ j : Nat, j ≤ n ∧ i = .int .i64 j ∧ sv = .int .i64 ((4 + (Fr.texts (l.take j)).length : Nat) : Int) ∧ wr = w) (fun _ i _ => n - (intOf i).toNat)
  case atStart => exact ⟨0, by omega, rfl, by simp [Fr.texts_nil], rfl⟩
  case round =>
    obtain ⟨j, hj, rfl, rfl, rfl⟩ := hrel
    by_cases hlt : j < n
    · rcases H.out.2.1 with h0 | ⟨hb, hg⟩
      · omega
      subst hb
      obtain ⟨t, ht⟩ : ∃ t, t = l.getD j [] := ⟨_, rfl⟩
      have c0 := H.out.2.2 j hlt
      rw [← ht] at c0
      unfold strv at c0
      have hts := texts_take (l := l) (j := j) (by rw [← HNL.out]; exact hlt)
      rw [← ht] at hts
      have hle := texts_take_le (l := l) (j + 1)
      obtain ⟨T, hT⟩ : ∃ T, T = (Fr.texts (l.take j)).length := ⟨_, rfl⟩
      have hT1 : (Fr.texts (l.take (j + 1))).length = T + (4 + t.length) := by rw [hts, List.length_append, List.length_append, Fr.length_be, hT]
      have hq : (bs t).size = t.length := bs_size t
      have hT2 : T + (4 + t.length) ≤ 60000 := by have := HL.out; have := HLL.out; omega
      rw [← hT]
      have HT1 := Lib.hid hT1
      clear hts hle hT hT1 ht
      go_wp2_with fail
      go_roundw
      case rel => exact ⟨j + 1, by omega, by go_num, by rw [HT1.out]; go_num, trivial⟩
      case measure => simp [intOf]; omega
    · obtain rfl : j = n := by omega
      obtain ⟨w0, rfl⟩ : ∃ x, x = wr := ⟨_, rfl⟩
      have hall : l.take j = l := List.take_of_length_le (by rw [← HNL.out]; exact Nat.le_refl _)
      have hsz : 4 + (Fr.texts (l.take j)).length ≤ 60000 := by rw [hall, ← HLL.out]; exact HL.out
      obtain ⟨S, hS⟩ : ∃ S, S = 4 + (Fr.texts (l.take j)).length := ⟨_, rfl⟩
      rw [← hS] at hsz ⊢
      have HALL := Lib.hid hall
      clear hall hS
      go_wp2_with (first | (refine wpList_alloc rfl 45 rfl _ allocBuilder ?_; go_frame) | (go_at_call 46; refine (Grow_any w0.heap.size S _ (by exact heap_alloc_new _ _) (by omega)).mono ?_; rintro e w1 ⟨rfl, hb1, hbel⟩; have HB1 := Lib.hid (((Below.refl w0.heap.size w0).alloc (Nat.le_refl _) _).trans hbel); have HA1 := Lib.hid hb1; clear hb1 hbel) | (go_at_call 45; refine (bytesOf4 _ _).mono ?_; rintro e w2 ⟨rfl, hb⟩; have HB2 := Lib.hid (HB1.out.trans (hb.mono HB1.out.size)); have HA2 := Lib.hid (HA1.out.below hb); clear hb) | (go_at_call 17; refine (WriteString_any w0.heap.size _ _ _ HA2.out (by simp [bs_size, Fr.length_be])).mono ?_; rintro e w3 ⟨rfl, h3, hb3⟩; have HB3 := Lib.hid (HB2.out.trans hb3); have HA3 := Lib.hid h3; clear h3 hb3) | fail)
      have HA3' : Hid (Built w0.heap.size (Fr.be 4 j ++ Fr.texts (l.take 0)) w3) := Lib.hid (by
        have := HA3.out; rw [List.nil_append, bs_list] at this
        rw [List.take_zero, Fr.texts_nil, List.append_nil]; exact this)
      clear HA3 HA2 HA1 HB2 HB1
      go_loopw [34] (fun i wr => ∃ k : Nat, k ≤ j ∧ i = .int .i64 k ∧ Built w0.heap.size (Fr.be 4 j ++ Fr.texts (l.take k)) wr ∧ Below w0.heap.size w0 wr) (fun i _ => j - (intOf i).toNat)
      case atStart => exact ⟨0, by omega, rfl, HA3'.out, HB3.out⟩
      case round =>
        obtain ⟨k, hk, rfl, hA, hB⟩ := hrel
        clear HA3' HB3
        by_cases hlt : k < j
        · rcases H.out.2.1 with h0 | ⟨hb, hg⟩
          · omega
          subst hb
          obtain ⟨t, ht⟩ : ∃ t, t = l.getD k [] := ⟨_, rfl⟩
          have c0 := (hB.cell (p := ⟨g, k, none⟩) hg).trans (H.out.2.2 k hlt)
          rw [← ht] at c0
          unfold strv at c0
          have hts := texts_take (l := l) (j := k) (by rw [← HNL.out]; exact hlt)
          rw [← ht] at hts
          have hle := texts_take_le (l := l) (k + 1)
          have hlen : (Fr.be 4 j ++ Fr.texts (l.take (k + 1))).length ≤ 60000 := by
            rw [List.length_append, Fr.length_be]; have := HL.out; have := HLL.out; omega
          have hT1 : Fr.be 4 j ++ Fr.texts (l.take (k + 1)) = (Fr.be 4 j ++ Fr.texts (l.take k) ++ Fr.be 4 t.length) ++ t := by rw [hts]; simp
          rw [hT1, List.length_append, List.length_append (bs := Fr.be 4 t.length), Fr.length_be] at hlen
          have hlen1 : (Fr.be 4 j ++ Fr.texts (l.take k)).length + (bs (Fr.be 4 t.length)).size ≤ 140737488355328 := by rw [bs_size, Fr.length_be]; omega
          have hlen2 : (Fr.be 4 j ++ Fr.texts (l.take k) ++ (bs (Fr.be 4 t.length)).data.toList).length + (bs t).size ≤ 140737488355328 := by rw [bs_size, bs_list, List.length_append, Fr.length_be]; omega
          have hq : (bs t).size = t.length := bs_size t
          have htl : t.length ≤ 60000 := by omega
          have HT1 := Lib.hid hT1
          have HA := Lib.hid hA
          have HB := Lib.hid hB
          have HLEN1 := Lib.hid hlen1
          have HLEN2 := Lib.hid hlen2
          clear hts hle hT1 ht hA hB hlen hlen1 hlen2
          go_wp2_with (first | (go_at_call 45; refine (bytesOf4 _ _).mono ?_; rintro e w2 ⟨rfl, hb⟩; have HB2 := Lib.hid (HB.out.trans (hb.mono HB.out.size)); have HA2 := Lib.hid (HA.out.below hb); clear hb) | (go_at_call 17; refine (WriteString_any w0.heap.size _ _ _ HA2.out HLEN1.out).mono ?_; rintro e w5 ⟨rfl, h3, hb3⟩; have HB5 := Lib.hid (HB2.out.trans hb3); have HA5 := Lib.hid h3; clear h3 hb3 HA2) | (go_at_call 17; refine (WriteString_any w0.heap.size _ _ _ HA5.out HLEN2.out).mono ?_; rintro e w7 ⟨rfl, h3, hb3⟩; have HB7 := Lib.hid (HB5.out.trans hb3); have HA7 := Lib.hid h3; clear h3 hb3) | fail)
          go_roundw
          case rel =>
            refine ⟨k + 1, by omega, by go_num, ?_, HB7.out⟩
            have := HA7.out
            rw [bs_list, bs_list] at this
            rw [HT1.out]; exact this
          case measure => simp [intOf]; omega
        · have hkj : k = j := by omega
          rw [hkj, HALL.out] at hA
          have e : Fr.be 4 j ++ Fr.texts l = Fr.list l := by rw [Fr.list_eq, HNL.out]
          rw [e] at hA
          have HA := Lib.hid hA
          have HB := Lib.hid hB
          clear hA hB e
          go_wp2_with (go_at_call 21; refine (String_any w0.heap.size _ _ HA.out).mono ?_; rintro e w7 ⟨rfl, hb3⟩; have HB7 := Lib.hid (HB.out.trans hb3); clear hb3; rw [bs_eq])
          go_ret2
          exact ⟨rfl, HB7.out⟩
end Go.Proofs.Ytdimkgidaioolaa
