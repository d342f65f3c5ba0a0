/- The program's disk killed and replaced; what a living one refuses; a dead one's image, its losing. -/
import Derived.Test.YtkpnllaegkdkkaaPDead
namespace Go.Proofs.Ytkpnllaegkdkkaa
open Go.RowKit

theorem live_again {d p bl bn n : Nat} {life : Int} {w1 w2 w3 : World} (h : Blank bl bn n w1 w2) (hd : d < w1.heap.size) (hp : p < w1.heap.size) (hpd : p ≠ d) (h1 : 1 ≤ n) (h2 : n ≤ 8192) (hk : Kept w2.heap.size [d] w2 w3)
    (ho : w3.heap[d]? = some (.cells (diskCells p n (.slice (some ⟨bl, 0, none⟩) n n) (.slice none 0 0) (.slice (some ⟨bn, 0, none⟩) n n) life).toArray 68 (0, 0))) : Live d p [d, bl, bn] n (blankS n) [] life w3 := by
  obtain ⟨g1, g2, g3, g4, g5, g6⟩ := h
  have l1 := lt_of_heap g1
  have l2 := lt_of_heap g2
  have hz := hk.size
  refine ⟨bl, bn, .slice none 0 0, ⟨ho, ?_, ?_, ?_, by simp [blankS], h1, h2, ?_, by simp, by simp, by omega, by omega, g5, by omega, by omega, by omega, ?_⟩, by simp, by simp, by simp, ?_, ?_, ?_⟩
  · rw [hk.block bl l1 (by simp; omega), g1, blankS, sect_zero]
  · rw [hk.block bn l2 (by simp; omega), g2, news_zero]
  · exact World.ownsRow_nil _ _ _ _
  · intro s hs; rw [blankS] at hs; rw [List.eq_of_mem_replicate hs, List.length_replicate]
  · intro g hg; simp [Value.ownBlock] at hg
  · intro g hg; simp [Value.ownBlock] at hg
  · simp; omega
  · intro x hx; simp at hx; have := g6.size; omega
set_option maxRecDepth 100000 in
theorem Replace_obj (d p n : Nat) (x1 x2 x3 : Value) (life : Int) (hl0 : 0 ≤ life) (hl : life ≤ 1000000000000) (h1 : 1 ≤ n) (h2 : n ≤ 8192) (w : World) (h : w.heap[d]? = some (.cells (diskCells p n x1 x2 x3 life).toArray 68 (0, 0))) (hp : p < w.heap.size) (hpd : p ≠ d) :
    Calls Try.prog 30 #[.pointer (some ⟨d, 0, none⟩)] w fun e w' => e = .returned (.tuple #[]) ∧ ∃ F', Live d p F' n (blankS n) [] (life + 1) w' ∧ (∀ x ∈ F', x = d ∨ w.heap.size ≤ x) ∧ Kept w.heap.size [d] w w' := by
  have c4 : w.cell? ⟨d, 4, none⟩ = some (.int .i64 n) := by rw [cell_of_list h]; rfl
  have hdl := lt_of_heap h
  have H := Lib.hid h
  clear h
  go_enter Try.func30, Try.ntmps30
  go_wp2_with fail
  refine (blank_any n h2 _).mono ?_
  rintro e w1 ⟨bl, bn, rfl, hB⟩
  have hb := hB.2.2.2.2.2
  have hz := hb.size
  obtain ⟨cs, hcs⟩ : ∃ cs, cs = [Value.slice (some ⟨bl, 0, none⟩) n n, .slice none 0 0, .slice (some ⟨bn, 0, none⟩) n n] := ⟨_, rfl⟩
  rw [show (#[Value.slice (some ⟨bl, 0, none⟩) n n, .slice none 0 0, .slice (some ⟨bn, 0, none⟩) n n] : Array Value) = cs.toArray by rw [hcs]]
  have hco : ∀ v ∈ cs, v.oneCell' = true := by rw [hcs]; intro u hu; simp only [List.mem_cons, List.not_mem_nil, or_false] at hu; rcases hu with rfl | rfl | rfl <;> rfl
  have hobj : w1.heap[d]? = some (.cells ([Value.pointer (some ⟨p, 0, none⟩)] ++ ([x1, x2, x3] ++ [natv n, .int .i64 life])).toArray 68 (0, 0)) := (hb.block d hdl).trans H.out
  have HO := Lib.hid hobj
  have HCO := Lib.hid hco
  have HCS := Lib.hid hcs
  have HB := Lib.hid hB
  clear hco hcs hobj hB hb c4
  go_wp2_with (refine wpList_store_part rfl 65 _ _ rfl d 1 cs [.pointer (some ⟨p, 0, none⟩)] [x1, x2, x3] [natv n, .int .i64 life] 68 rfl rfl HO.out rfl (by rw [HCS.out]; rfl) (by rw [HCS.out]; exact size_med) HCO.out ?_; intro w2 hg1 hk1 hs1; have c5 : w2.cell? ⟨d, 5, none⟩ = some (.int .i64 life) := (by rw [cell_of_list hg1.out, HCS.out]; rfl); have f5 := free_of_list hg1.out 5; go_frame)
  go_end0
  have hk : Kept w1.heap.size [d] w1 (w2.setCell ⟨d, 5, none⟩ (.int .i64 (life + 1))) := hk1.out.setCell (p := ⟨d, 5, none⟩) (by simp) _
  refine ⟨rfl, [d, bl, bn], live_again HB.out hdl hp hpd h1 h2 hk ?_, ?_, (Kept.of_below HB.out.2.2.2.2.2).trans (hk.mono hz (fun _ _ h => h))⟩
  · rw [set_list hg1.out 5, HCS.out]; rfl
  · intro x hx
    have := HB.out.2.2.1
    have := HB.out.2.2.2.1
    simp only [List.mem_cons, List.not_mem_nil, or_false] at hx
    omega
theorem Write_bad (d p : Nat) (F : List Nat) (n : Nat) (S : List (List UInt8)) (ps : List Dk.Wr) (life fuse acts : Int) (a : Int) (q : ByteArray) (hb : (a < 0 ∨ (n : Int) ≤ a) ∨ q.size ≠ 64) (w : World) (h : Live d p F n S ps life w) (hp : PowerAt p false fuse acts w) :
    Calls Try.prog 12 #[.pointer (some ⟨d, 0, none⟩), .int .i64 a, .string q] w (Refused 1 id w) := by
  obtain ⟨bl, bn, pv, h, _⟩ := h
  have c1 := h.c1
  have hn := h.n2
  have H := Lib.hid h
  have HP := Lib.hid hp
  clear h hp
  by_cases ha : a < 0 ∨ (n : Int) ≤ a
  · have HA := Lib.hid ha
    clear ha hb
    go_enter Try.func12, Try.ntmps12
    go_wp2_with (first | (go_at_call 41; refine (ready_ok d p bl bn pv n S ps life fuse acts _ H.out HP.out).mono ?_; rintro e w' ⟨rfl, rfl⟩) | (go_at_call 42; refine (has_no d bl n a HA.out hn _ c1).mono ?_; rintro e w' ⟨rfl, rfl⟩) | (go_at_call 18; refine (fault_is 1 _).mono ?_; rintro e w' ⟨g, hg, rfl, hf, hb⟩; have HF := Lib.hid hf; have HB := Lib.hid hb; clear hf hb))
    go_ret
    exact ⟨g, hg, rfl, HF.out, HB.out⟩
  · have hq : q.size ≠ 64 := by rcases hb with h | h; exact absurd h ha; exact h
    obtain ⟨k, rfl⟩ : ∃ k : Nat, a = k := ⟨a.toNat, by omega⟩
    have hk : k < n := by omega
    have hne : ((q.size : Int) != 64) = true := by rw [bne_iff_ne]; omega
    clear ha hb hq
    go_enter Try.func12, Try.ntmps12
    go_wp2_with (first | (go_at_call 41; refine (ready_ok d p bl bn pv n S ps life fuse acts _ H.out HP.out).mono ?_; rintro e w' ⟨rfl, rfl⟩) | (go_at_call 42; refine (has_yes d bl n k hk _ c1).mono ?_; rintro e w' ⟨rfl, rfl⟩) | (go_at_call 18; refine (fault_is 1 _).mono ?_; rintro e w' ⟨g, hg, rfl, hf, hb⟩; have HF := Lib.hid hf; have HB := Lib.hid hb; clear hf hb))
    go_ret
    exact ⟨g, hg, rfl, HF.out, HB.out⟩
theorem Rot_bad (d p : Nat) (F : List Nat) (n : Nat) (S : List (List UInt8)) (ps : List Dk.Wr) (life : Int) (a b : Int) (hb : (a < 0 ∨ (n : Int) ≤ a) ∨ b < 0 ∨ 512 ≤ b) (w : World) (h : Live d p F n S ps life w) :
    Calls Try.prog 32 #[.pointer (some ⟨d, 0, none⟩), .int .i64 a, .int .i64 b] w (Refused 1 id w) := by
  obtain ⟨bl, bn, pv, h, _⟩ := h
  have c1 := h.c1
  have hn := h.n2
  have hn1 := h.n1
  clear h
  by_cases ha : a < 0 ∨ (n : Int) ≤ a
  · have HA := Lib.hid ha
    clear ha hb
    go_enter Try.func32, Try.ntmps32
    go_wp2_with (first | (go_at_call 37; refine (Dead_no d bl n (by omega) (by omega) _ c1).mono ?_; rintro e w' ⟨rfl, rfl⟩) | (go_at_call 42; refine (has_no d bl n a HA.out hn _ c1).mono ?_; rintro e w' ⟨rfl, rfl⟩) | (go_at_call 18; refine (fault_is 1 _).mono ?_; rintro e w' ⟨g, hg, rfl, hf, hb⟩; have HF := Lib.hid hf; have HB := Lib.hid hb; clear hf hb))
    go_ret
    exact ⟨g, hg, rfl, HF.out, HB.out⟩
  · obtain ⟨k, rfl⟩ : ∃ k : Nat, a = k := ⟨a.toNat, by omega⟩
    have hk : k < n := by omega
    have hbb : b < 0 ∨ 512 ≤ b := by rcases hb with h | h; exact absurd h ha; exact h
    clear ha hb
    by_cases h3 : b < 0
    · clear hbb
      go_enter Try.func32, Try.ntmps32
      go_wp2_with (first | (go_at_call 37; refine (Dead_no d bl n (by omega) (by omega) _ c1).mono ?_; rintro e w' ⟨rfl, rfl⟩) | (go_at_call 42; refine (has_yes d bl n k hk _ c1).mono ?_; rintro e w' ⟨rfl, rfl⟩) | (go_at_call 18; refine (fault_is 1 _).mono ?_; rintro e w' ⟨g, hg, rfl, hf, hb⟩; have HF := Lib.hid hf; have HB := Lib.hid hb; clear hf hb))
      go_ret
      exact ⟨g, hg, rfl, HF.out, HB.out⟩
    · have h4 : 512 ≤ b := by omega
      have h5 : 0 ≤ b := by omega
      clear hbb h3
      go_enter Try.func32, Try.ntmps32
      go_wp2_with (first | (go_at_call 37; refine (Dead_no d bl n (by omega) (by omega) _ c1).mono ?_; rintro e w' ⟨rfl, rfl⟩) | (go_at_call 42; refine (has_yes d bl n k hk _ c1).mono ?_; rintro e w' ⟨rfl, rfl⟩) | (go_at_call 18; refine (fault_is 1 _).mono ?_; rintro e w' ⟨g, hg, rfl, hf, hb⟩; have HF := Lib.hid hf; have HB := Lib.hid hb; clear hf hb))
      go_ret
      exact ⟨g, hg, rfl, HF.out, HB.out⟩
theorem Image_dead (d p n : Nat) (life : Int) (w : World) (h : DeadAt d p n life w) :
    Calls Try.prog 11 #[.pointer (some ⟨d, 0, none⟩)] w fun e w' => e = .returned (.string ⟨#[]⟩) ∧ Below w.heap.size w w' := by
  have R : Calls Try.prog 40 #[.pointer (some ⟨d, 1, none⟩)] w fun e w' => e = .returned (.string ⟨#[]⟩) ∧ Below w.heap.size w w' := by
    have c1 := h.c1
    have hdl := h.lt
    clear h
    go_enter Try.func40, Try.ntmps40
    go_wp2_with fail
    refine (Builder_Grow_fresh w.heap.size w.heap.size 0 _ (Nat.le_refl _) (by exact heap_alloc_new _ _) (by simp) (by omega)).mono ?_
    rintro e w1 ⟨rfl, hb1, hbel⟩
    have B1 : Below w.heap.size w w1 := ((Below.refl _ _).alloc (Nat.le_refl _) _).trans hbel
    have HB1 := Lib.hid hb1
    have HB := Lib.hid B1
    have c11 : w1.cell? ⟨d, 1, none⟩ = some (.slice none 0 0) := (B1.cell (p := ⟨d, 1, none⟩) hdl).trans c1
    have hsz := B1.size
    clear hb1 hbel B1
    go_wp2_with fail
    go_loopw [17] (fun i wr => i = .int .i64 0 ∧ wr = w1) (fun _ _ => 0)
    case atStart => exact ⟨rfl, rfl⟩
    case round =>
      obtain ⟨rfl, rfl⟩ := hrel
      go_wp2_with fail
      refine (Builder_String_any w.heap.size w.heap.size [] _ (Or.inr HB1.out) hsz).mono ?_
      rintro e w3 ⟨rfl, hb3⟩
      have HB3 := Lib.hid (HB.out.trans hb3)
      clear hb3
      go_wp2_with fail
      go_ret
      exact ⟨rfl, HB3.out⟩
  have HR := Lib.hid R
  clear h R
  go_enter Try.func11, Try.ntmps11
  go_wp2_with (go_at_call 40; refine HR.out.mono ?_; rintro e w' ⟨rfl, hb⟩)
  go_ret
  exact ⟨rfl, hb⟩
theorem settle_dead (d p n : Nat) (life : Int) (f : FuncId) (cap : Array Value) (w : World) (h : DeadAt d p n life w) :
    Calls Try.prog 46 #[.pointer (some ⟨d, 1, none⟩), .func (.func f) #[] cap] w fun e w' => e = .returned (.tuple #[]) ∧ DeadAt d p n life w' ∧ Kept w.heap.size [d] w w' := by
  have c2 := h.c2
  have f2 := h.free 2
  have H := Lib.hid h
  clear h
  go_enter Try.func46, Try.ntmps46
  go_wp2
  go_loopw [11] (fun i wr => i = .int .i64 0 ∧ wr = w) (fun _ _ => 0)
  case atStart => exact ⟨rfl, rfl⟩
  case round =>
    obtain ⟨rfl, rfl⟩ := hrel
    go_wp2
    go_end0
    exact ⟨rfl, ⟨set_list H.out.obj 2 _, H.out.n1, H.out.n2⟩, (Kept.refl _ _ _).setCell (p := ⟨d, 2, none⟩) (by simp) _⟩
set_option maxRecDepth 100000 in
set_option maxHeartbeats 1000000 in
theorem Lose_dead (d p n : Nat) (life : Int) (a : Option Addr) (m cap : Nat) (t : Int) (w : World) (h : DeadAt d p n life w) :
    Calls Try.prog 16 #[.pointer (some ⟨d, 0, none⟩), .slice a m cap, .int .i64 t] w fun e w' => e = .returned (.tuple #[]) ∧ DeadAt d p n life w' ∧ Kept w.heap.size [d] w w' := by
  have H := Lib.hid h
  have hT : ∀ c : Int, Calls Try.prog 46 #[.pointer (some ⟨d, 1, none⟩), .func (.func 47) #[] #[.pointer (some ⟨w.heap.size, 0, none⟩), .pointer (some ⟨w.heap.size + 1, 0, none⟩)]] ((w.alloc (.cells #[.slice a m cap] 44)).alloc (.cells #[.int .i64 c] 3)) fun e w' =>
      e = .returned (.tuple #[]) ∧ DeadAt d p n life w' ∧ Kept w.heap.size [d] w w' := by
    intro c
    have hb : Below w.heap.size w ((w.alloc (.cells #[.slice a m cap] 44)).alloc (.cells #[.int .i64 c] 3)) := ((Below.refl _ _).alloc (Nat.le_refl _) _).alloc (by simp) _
    have h1 : DeadAt d p n life ((w.alloc (.cells #[.slice a m cap] 44)).alloc (.cells #[.int .i64 c] 3)) := ⟨(hb.block d h.lt).trans h.obj, h.n1, h.n2⟩
    refine (settle_dead d p n life 47 _ _ h1).mono ?_
    rintro e w' ⟨rfl, h2, hk⟩
    exact ⟨rfl, h2, (Kept.of_below hb).trans (hk.mono hb.size (fun _ _ h => h))⟩
  have HT := Lib.hid hT
  clear hT h
  go_enter Try.func16, Try.ntmps16
  go_wp2_with fail
  refine (HT.out (min (max t 0) 64)).mono ?_
  rintro e w2 ⟨rfl, hl, hk⟩
  have HL := Lib.hid hl
  have HK := Lib.hid hk
  clear hl hk
  go_wp2_with fail
  go_end0
  exact ⟨rfl, HL.out, HK.out⟩
end Go.Proofs.Ytkpnllaegkdkkaa
