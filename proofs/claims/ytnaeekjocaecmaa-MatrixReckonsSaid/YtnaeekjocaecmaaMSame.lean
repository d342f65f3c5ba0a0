/- The walks of a matrix that is made of parts, and of whether two are the same. -/
import Derived.Test.YtnaeekjocaecmaaMIs
namespace Go.Proofs.Ytnaeekjocaecmaa
open Go.RowKit

theorem of_any (r c : Int) (a0 : Option Addr) (len cap : Nat) (w : World) : Calls Try.prog 35 #[.int .i64 r, .int .i64 c, .slice a0 len cap] w fun e w' => e = .returned (.agg #[.int .i64 r, .int .i64 c, .slice a0 len cap]) ∧ Below w.heap.size w w' := by
  go_enter Try.func35, Try.ntmps35
  go_wp2_with (refine wpList_store_whole rfl 24 _ _ rfl w.heap.size [.int .i64 r, .int .i64 c, .slice a0 len cap] zeroRow 24 rfl rfl (heap_alloc_new _ _) rfl (by kernel_rfl) (fun v hv => by simp at hv; rcases hv with rfl | rfl | rfl <;> rfl) ?_; intro w2 h2 k2 s2; go_frame)
  exact bodyPost_ret (results_mid Try.results35 _ _ w.heap.size 0 [.int .i64 r, .int .i64 c, .slice a0 len cap] _ rfl (range_of_list h2.out) Try.underlying24 rfl (by kernel_rfl)) rfl ⟨rfl, below_kept ((Below.refl _ _).alloc (Nat.le_refl _) _) k2.out (Nat.le_refl _) (by simp)⟩
theorem Tab.hand {g R C N : Nat} {M : Mat} {w : World} (h : Tab g M R C w) (hN : R * C = N) : Hand (some ⟨g, 0, none⟩) N N (flat M R C) w :=
  ⟨by rw [length_flat, hN], Nat.le_refl _, fun _ => ⟨g, 0, rfl, h.lt, h.src⟩⟩
theorem Hand.nil (w : World) (a0 : Option Addr) (cap : Nat) : Hand a0 0 cap [] w := ⟨rfl, Nat.zero_le _, fun h => by omega⟩
theorem int_self_ne (r : Int) : (r != r) = false := by simp
set_option maxHeartbeats 2000000 in
theorem Same_any (r c : Int) (a1 a2 : Option Addr) (n cap1 cap2 : Nat) (l : List UInt8) (hn : n ≤ 1000000) (w : World) (h1 : Hand a1 n cap1 l w) (h2 : Hand a2 n cap2 l w) :
    Calls Try.prog 15 #[.agg #[.int .i64 r, .int .i64 c, .slice a1 n cap1], .agg #[.int .i64 r, .int .i64 c, .slice a2 n cap2]] w fun e w' => e = .returned (.bool true) ∧ Below w.heap.size w w' := by
  have q1 := int_self_ne r
  have q2 := int_self_ne c
  have q3 := int_self_ne (n : Int)
  obtain ⟨wa, hwa⟩ : ∃ wa, wa = (w.alloc (.cells #[.int .i64 r, .int .i64 c, .slice a1 n cap1] 24)).alloc (.cells #[.int .i64 r, .int .i64 c, .slice a2 n cap2] 24) := ⟨_, rfl⟩
  have hb : Below w.heap.size w wa := by rw [hwa]; exact ((Below.refl _ _).alloc (Nat.le_refl _) _).alloc (by simp) _
  have ha1 : wa.heap[w.heap.size]? = some (.cells [.int .i64 r, .int .i64 c, .slice a1 n cap1].toArray 24 (0, 0)) := by rw [hwa]; exact heap_alloc2_old _ _ _
  have ha2 : wa.heap[w.heap.size + 1]? = some (.cells [.int .i64 r, .int .i64 c, .slice a2 n cap2].toArray 24 (0, 0)) := by rw [hwa]; exact heap_alloc2_new _ _ _
  obtain ⟨e0, e1, e2⟩ := heap_cell0 ha1
  obtain ⟨f0, f1, f2⟩ := heap_cell0 ha2
  have H1 := Lib.hid (h1.below hb rfl)
  have H2 := Lib.hid (h2.below hb rfl)
  have HB := Lib.hid hb
  have HWA := Lib.hid hwa
  clear h1 h2 hb ha1 ha2 hwa
  go_enter Try.func15, Try.ntmps15
  go_wp2_with fail
  rw [← HWA.out]
  go_loopw [5] (fun iv wr => ∃ i : Nat, i ≤ n ∧ iv = .int .i64 i ∧ (∃ m, wr = wa.drewN m)) (fun iv _ => n - (intOf iv).toNat)
  case atStart => exact ⟨0, by omega, rfl, 0, rfl⟩
  case round =>
    obtain ⟨i, hi, rfl, m, rfl⟩ := hrel
    by_cases hlt : i < n
    · obtain ⟨b1, o1, rfl, hl1, hr1⟩ := H1.out.cells (by omega)
      obtain ⟨b2, o2, rfl, hl2, hr2⟩ := H2.out.cells (by omega)
      have hil : i < l.length := by rw [H1.out.hl]; exact hlt
      obtain ⟨x, hx⟩ : ∃ x, l[i]? = some x := ⟨_, List.getElem?_eq_getElem hil⟩
      have hx' : (l.map u8v)[i]? = some (.int .u8 (x.toNat : Int)) := by rw [List.getElem?_map, hx]; rfl
      have g1 : wa.cell? ⟨b1, o1 + i, none⟩ = some (.int .u8 (x.toNat : Int)) := hr1 i _ hx'
      have g2 : wa.cell? ⟨b2, o2 + i, none⟩ = some (.int .u8 (x.toNat : Int)) := hr2 i _ hx'
      have q4 := int_self_ne (x.toNat : Int)
      clear e0 e1 f0 f1 hr1 hr2 hx hx' H1 H2
      go_wp2_with fail
      go_quiet (fail)
      go_wp2_with fail
      go_roundw
      case rel => exact ⟨i + 1, by omega, by go_num, _, by first | rfl | exact World.drewN_drewN _ _ _⟩
      case measure => simp [intOf]; omega
    · obtain rfl : i = n := by omega
      go_wp2_with fail
      go_ret
      exact ⟨rfl, below_drewN HB.out m⟩
end Go.Proofs.Ytnaeekjocaecmaa
