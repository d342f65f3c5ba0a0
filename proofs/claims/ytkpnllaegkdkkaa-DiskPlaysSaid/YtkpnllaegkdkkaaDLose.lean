/- The walks of what is lost. -/
import Derived.Test.YtkpnllaegkdkkaaDSettle
namespace Go.Proofs.Ytkpnllaegkdkkaa
open Go.RowKit

/-- A list of yes and no as a slice has it. -/
structure Yes (kv : Value) (kb ko : Nat) (ks : List Nat) (keep : List Bool) (w : World) : Prop where
  form : ∃ a cap, kv = .slice a keep.length cap ∧ (keep.length = 0 ∨ a = some ⟨kb, ko, none⟩)
  ins : keep.length = 0 ∨ kb ∈ ks
  cells : ∀ i, i < keep.length → w.cell? ⟨kb, ko + i, none⟩ = some (.bool (keep.getD i false))
  few : keep.length ≤ 9223372036854775807
theorem Yes.keep {kv : Value} {kb ko : Nat} {ks : List Nat} {keep : List Bool} {w w' : World} (h : Yes kv kb ko ks keep w) (hk : ∀ k ∈ ks, w'.heap[k]? = w.heap[k]?) : Yes kv kb ko ks keep w' :=
  ⟨h.form, h.ins, fun i hi => (World.cell?_of_block (w := w) (a := ⟨kb, ko + i, none⟩) (hk kb (by rcases h.ins with h0 | h0; omega; exact h0))).trans (h.cells i hi), h.few⟩
/-- What the closure has captured. -/
structure Lost (B : Nat) (kv : Value) (kb ko : Nat) (ks : List Nat) (keep : List Bool) (torn j : Nat) (w : World) : Prop where
  one : w.heap[B]? = some (.cells [kv].toArray 44 (0, 0))
  two : w.heap[B + 1]? = some (.cells [Value.int .i64 (Dk.tornAt keep torn j : Nat)].toArray 3 (0, 0))
  yes : Yes kv kb ko ks keep w

set_option maxHeartbeats 1000000 in
theorem keeps_lose (B : Nat) (kv : Value) (kb ko : Nat) (ks : List Nat) (keep : List Bool) (torn : Nat) (ht : torn ≤ 64) (hks : ∀ k ∈ ks, k ≠ B + 1) :
    Keeps 47 #[.pointer (some ⟨B, 0, none⟩), .pointer (some ⟨B + 1, 0, none⟩)] (Dk.keptAt keep torn) ([B, B + 1] ++ ks) [B + 1] (Lost B kv kb ko ks keep torn) where
  sub := by simp
  le := Dk.keptAt_le keep torn ht
  enters := fun args w => by kernel_rfl
  stays := fun j w w' h hk => ⟨(hk B (by simp)).trans h.one, (hk (B + 1) (by simp)).trans h.two, h.yes.keep (fun k hk' => hk k (by simp [hk']))⟩
  call := fun j w hj h => by
    obtain ⟨a, cap, rfl, ha⟩ := h.yes.form
    have c1 : w.cell? ⟨B, 0, none⟩ = some (.slice a keep.length cap) := by rw [cell_of_list h.one]; rfl
    obtain ⟨tn, htn⟩ : ∃ tn, tn = Dk.tornAt keep torn j := ⟨_, rfl⟩
    have c2 : w.cell? ⟨B + 1, 0, none⟩ = some (.int .i64 tn) := by rw [cell_of_list h.two, ← htn]; rfl
    have f2 := free_of_list h.two 0
    have hfew := h.yes.few
    have hcells := h.yes.cells
    have H := Lib.hid h
    have HT := Lib.hid htn
    have HA := Lib.hid ha
    have HCE := Lib.hid hcells
    obtain ⟨N, hN⟩ : ∃ N, N = keep.length := ⟨_, rfl⟩
    have HN := Lib.hid hN
    rw [← hN] at c1 hfew
    clear h htn ha hcells
    have fin : ∀ w', w' = w.setCell ⟨B + 1, 0, none⟩ (.int .i64 0) → keep.getD j false = false → Lost B (.slice a keep.length cap) kb ko ks keep torn (j + 1) w' ∧ Kept w.heap.size [B + 1] w w' := by
      rintro w' rfl hb
      have e5 : ∀ k, k ≠ B + 1 → (w.setCell ⟨B + 1, 0, none⟩ (.int .i64 0)).heap[k]? = w.heap[k]? := fun k hk => by rw [heap_setCell_other _ _ _ _ hk]
      refine ⟨⟨(e5 B (by omega)).trans H.out.one, ?_, H.out.yes.keep (fun k hk => e5 k (hks k hk))⟩, (Kept.refl _ _ _).setCell (by simp) _⟩
      rw [Dk.tornAt_lost hb]
      exact set_list H.out.two 0 _
    have FIN := Lib.hid fin
    clear fin hN
    by_cases hlt : j < N
    · obtain rfl : a = some ⟨kb, ko, none⟩ := by have := HN.out; rcases HA.out with h | h; omega; exact h
      have cj := HCE.out j (by rw [← HN.out]; exact hlt)
      cases hb : keep.getD j false with
      | true =>
        rw [hb] at cj
        have HB := Lib.hid hb
        clear hb
        go_enter Try.func47, Try.ntmps47
        go_wp2
        go_ret
        refine ⟨?_, ⟨H.out.one, ?_, H.out.yes⟩, Kept.refl _ _ _⟩
        · rw [Dk.keptAt_kept HB.out]; rfl
        · rw [Dk.tornAt_kept HB.out]; exact H.out.two
      | false =>
        rw [hb] at cj
        have HB := Lib.hid hb
        clear hb
        go_enter Try.func47, Try.ntmps47
        go_wp2
        go_ret
        refine ⟨?_, FIN.out _ rfl HB.out⟩
        rw [Dk.keptAt_lost HB.out, ← HT.out]; rfl
    · have hb : keep.getD j false = false := by rw [List.getD, List.getElem?_eq_none (by rw [← HN.out]; omega)]; rfl
      have HB := Lib.hid hb
      clear hb
      have hd : decide ((j : Int) < (N : Int)) = false := by rw [decide_eq_false_iff_not]; omega
      go_enter Try.func47, Try.ntmps47
      go_wp2
      go_ret
      refine ⟨?_, FIN.out _ rfl HB.out⟩
      rw [Dk.keptAt_lost HB.out, ← HT.out]; rfl

theorem lost_start {kv : Value} {kb ko : Nat} {ks : List Nat} {keep : List Bool} {t c : Int} {w : World} (hy : Yes kv kb ko ks keep w) (hks : ∀ k ∈ ks, k < w.heap.size) (hc : c = (Dk.clamp t : Nat)) :
    Lost w.heap.size kv kb ko ks keep (Dk.clamp t) 0 ((w.alloc (.cells #[kv] 44)).alloc (.cells #[.int .i64 c] 3)) := by
  have hz : (w.alloc (.cells #[kv] 44)).heap.size = w.heap.size + 1 := World.size_alloc _ _
  refine ⟨?_, ?_, hy.keep (fun k hk => ?_)⟩
  · rw [heap_alloc_old _ _ (by omega)]; exact heap_alloc_new _ _
  · rw [Dk.tornAt_zero, ← hc, ← hz]; exact heap_alloc_new _ _
  · have := hks k hk
    rw [heap_alloc_old _ _ (by omega), heap_alloc_old _ _ (by omega)]
theorem clamp_neg {t : Int} (h : t < 0) : (0 : Int) = (Dk.clamp t : Nat) := by rw [Dk.clamp_eq]; omega
theorem clamp_mid {t : Int} (h0 : 0 ≤ t) (h : t ≤ 64) : t = (Dk.clamp t : Nat) := by rw [Dk.clamp_eq]; omega
theorem clamp_big {t : Int} (h : 64 < t) : (64 : Int) = (Dk.clamp t : Nat) := by rw [Dk.clamp_eq]; omega
theorem lose_tail (d p bl bn : Nat) (pv : Value) (n : Nat) (S : List (List UInt8)) (ps : List Dk.Wr) (life : Int) (kv : Value) (kb ko : Nat) (ks : List Nat) (keep : List Bool) (t c : Int) (hc : c = (Dk.clamp t : Nat)) (w : World) (h : LiveAt d p bl bn pv n S ps life w)
    (hy : Yes kv kb ko ks keep w) (hks : ∀ k ∈ ks, k < w.heap.size ∧ k ≠ d ∧ k ≠ bl ∧ k ≠ bn ∧ pv.ownBlock ≠ some k) :
    Calls Try.prog 46 #[.pointer (some ⟨d, 1, none⟩), .func (.func 47) #[] #[.pointer (some ⟨w.heap.size, 0, none⟩), .pointer (some ⟨w.heap.size + 1, 0, none⟩)]] ((w.alloc (.cells #[kv] 44)).alloc (.cells #[.int .i64 c] 3)) fun e w' =>
      e = .returned (.tuple #[]) ∧ LiveAt d p bl bn (.slice none 0 0) n (Dk.settleTo S ps (Dk.keptAt keep (Dk.clamp t)) ps.length) [] life w' ∧ Kept w.heap.size [d, bl, bn] w w' := by
  have hb : Below w.heap.size w ((w.alloc (.cells #[kv] 44)).alloc (.cells #[.int .i64 c] 3)) := ((Below.refl _ _).alloc (Nat.le_refl _) _).alloc (by simp) _
  have h1 := h.lt
  have h2 := lt_of_heap h.lst
  have h3 := lt_of_heap h.nws
  have hL : LiveAt d p bl bn pv n S ps life ((w.alloc (.cells #[kv] 44)).alloc (.cells #[.int .i64 c] 3)) := h.keep (hb.block _ h1) (hb.block _ h2) (hb.block _ h3) (fun g hg => hb.block _ (h.pnd.lt g hg).2)
  have hz : ((w.alloc (.cells #[kv] 44)).alloc (.cells #[.int .i64 c] 3)).heap.size = w.heap.size + 2 := by rw [World.size_alloc, World.size_alloc]
  refine (settle_any 47 _ _ _ _ _ (keeps_lose w.heap.size kv kb ko ks keep (Dk.clamp t) (Dk.clamp_le t) (fun k hk => by have := (hks k hk).1; omega)) d p bl bn pv n S ps life _ hL (lost_start hy (fun k hk => (hks k hk).1) hc) ?_).mono ?_
  · intro x hx
    simp only [List.mem_append, List.mem_cons, List.not_mem_nil, or_false] at hx
    rw [hz]
    rcases hx with (rfl | rfl) | hx
    · exact ⟨by omega, by omega, by omega, by omega, fun e => by have := (h.pnd.lt _ e).2; omega⟩
    · exact ⟨by omega, by omega, by omega, by omega, fun e => by have := (h.pnd.lt _ e).2; omega⟩
    · have := hks x hx
      exact ⟨by omega, this.2.1, this.2.2.1, this.2.2.2.1, this.2.2.2.2⟩
  · rintro e w' ⟨rfl, hl, _, hk⟩
    refine ⟨rfl, hl, (Kept.of_below hb).trans (hk.mono (by omega) (fun k hk1 hm => ?_))⟩
    simp only [List.mem_append, List.mem_cons, List.not_mem_nil, or_false] at hm ⊢
    omega
set_option maxRecDepth 100000 in
set_option maxHeartbeats 1000000 in
theorem Lose_any (d p : Nat) (F : List Nat) (n : Nat) (S : List (List UInt8)) (ps : List Dk.Wr) (life : Int) (kv : Value) (kb ko : Nat) (ks : List Nat) (keep : List Bool) (t : Int) (w : World) (h : Live d p F n S ps life w)
    (hy : Yes kv kb ko ks keep w) (hks : ∀ k ∈ ks, k < w.heap.size ∧ k ∉ F) :
    Calls Try.prog 16 #[.pointer (some ⟨d, 0, none⟩), kv, .int .i64 t] w fun e w' => e = .returned (.tuple #[]) ∧
      (Live d p F n (Dk.settleTo S ps (Dk.keptAt keep (Dk.clamp t)) ps.length) [] life w' ∧ Kept w.heap.size F w w') := by
  obtain ⟨bl, bn, pv, h, k1, k2, k3, k4, k5, k6⟩ := h
  have hT := fun c hc => lose_tail d p bl bn pv n S ps life kv kb ko ks keep t c hc w h hy (fun k hk => ⟨(hks k hk).1, fun e => (hks k hk).2 (e ▸ k1), fun e => (hks k hk).2 (e ▸ k2), fun e => (hks k hk).2 (e ▸ k3), fun e => (hks k hk).2 (k4 k e)⟩)
  have HT := Lib.hid hT
  have FIN : Hid (∀ w', LiveAt d p bl bn (.slice none 0 0) n (Dk.settleTo S ps (Dk.keptAt keep (Dk.clamp t)) ps.length) [] life w' → Kept w.heap.size [d, bl, bn] w w' →
      Live d p F n (Dk.settleTo S ps (Dk.keptAt keep (Dk.clamp t)) ps.length) [] life w' ∧ Kept w.heap.size F w w') := Lib.hid (fun w' hl hk => by
    have hz := hk.size
    refine ⟨⟨bl, bn, _, hl, k1, k2, k3, fun g hg => by simp [Value.ownBlock] at hg, k5, fun x hx => by have := k6 x hx; omega⟩, hk.mono (Nat.le_refl _) (fun x _ hx => ?_)⟩
    simp only [List.mem_cons, List.not_mem_nil, or_false] at hx
    rcases hx with rfl | rfl | rfl <;> assumption)
  obtain ⟨a, cap, rfl, ha⟩ := hy.form
  clear h k1 k2 k3 k4 k5 k6 ha hy hks hT
  by_cases h0 : t < 0
  · go_enter Try.func16, Try.ntmps16
    go_wp2_with fail
    refine (HT.out 0 (clamp_neg h0)).mono ?_
    rintro e w2 ⟨rfl, hl, hk⟩
    have HL := Lib.hid hl
    have HK := Lib.hid hk
    clear hl hk
    go_wp2_with fail
    go_end0
    exact ⟨rfl, FIN.out _ HL.out HK.out⟩
  · have h0' : 0 ≤ t := by omega
    clear h0
    by_cases h1 : t ≤ 64
    · go_enter Try.func16, Try.ntmps16
      go_wp2_with fail
      refine (HT.out t (clamp_mid h0' h1)).mono ?_
      rintro e w2 ⟨rfl, hl, hk⟩
      have HL := Lib.hid hl
      have HK := Lib.hid hk
      clear hl hk
      go_wp2_with fail
      go_end0
      exact ⟨rfl, FIN.out _ HL.out HK.out⟩
    · have h1' : 64 < t := by omega
      clear h1
      go_enter Try.func16, Try.ntmps16
      go_wp2_with fail
      refine (HT.out 64 (clamp_big h1')).mono ?_
      rintro e w2 ⟨rfl, hl, hk⟩
      have HL := Lib.hid hl
      have HK := Lib.hid hk
      clear hl hk
      go_wp2_with fail
      go_end0
      exact ⟨rfl, FIN.out _ HL.out HK.out⟩
end Go.Proofs.Ytkpnllaegkdkkaa
