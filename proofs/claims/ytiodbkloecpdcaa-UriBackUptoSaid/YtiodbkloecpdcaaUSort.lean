/- Pairs are compared, collected and sorted. -/
import Derived.Test.YtiodbkloecpdcaaUIter
import Derived.Test.YtiodbkloecpdcaaUSortL
import Derived.Shelf.SlSortCmp.QuietGrown
namespace Go.Proofs.Ytiodbkloecpdcaa
open Go.RowKit Go.Shelf

def or2 (a b : Int) : Int := if a ≠ 0 then a else b
/-- What the program's comparison answers. -/
def cfP (p q : Ur.Pr) : Int := or2 (Lib.compareBytes p.1 q.1) (Lib.compareBytes p.2 q.2)
set_option maxHeartbeats 1000000 in
theorem Or_any (g : Nat) (a b : Int) (w : World) (h : w.heap[g]? = some (.cells [Value.int .i64 a, .int .i64 b].toArray 3 (0, 0))) : Calls Try.prog 56 #[.slice (some ⟨g, 0, none⟩) 2 2] w fun e w' => e = .returned (.int .i64 (or2 a b)) ∧ w' = w := by
  have c0 := cell_of_list h 0
  have c1 := cell_of_list h 1
  simp only [List.getElem?_cons_zero, List.getElem?_cons_succ] at c0 c1
  have hlt := lt_of_heap h
  obtain ⟨r, hr⟩ : ∃ r, r = or2 a b := ⟨_, rfl⟩
  rw [← hr]
  have HR := Lib.hid hr
  clear hr h
  go_enter Try.func56, Try.ntmps56
  go_wp2_with fail
  go_loopw [5, 8] (fun _ iv wr => ∃ j : Nat, j ≤ 2 ∧ iv = .int .i64 j ∧ (1 ≤ j → a = 0) ∧ (2 ≤ j → b = 0) ∧ wr = w) (fun _ iv _ => 2 - (intOf iv).toNat)
  case atStart => exact ⟨0, by omega, rfl, by omega, by omega, rfl⟩
  case round =>
    obtain ⟨j, hj, rfl, h1, h2, hw⟩ := hrel
    obtain rfl := hw.symm
    clear hw
    rcases (show j = 0 ∨ j = 1 ∨ j = 2 by omega) with rfl | rfl | rfl
    · by_cases ha0 : a = 0
      · have q : (a != 0) = false := by rw [ha0]; rfl
        have HA := Lib.hid ha0
        clear ha0 h1 h2
        go_wp2_with fail
        go_roundw
        case rel => exact ⟨1, by omega, rfl, fun _ => HA.out, by omega, trivial⟩
        case measure => simp [intOf]
      · have q : (a != 0) = true := by simpa using ha0
        have HA := Lib.hid ha0
        clear ha0 h1 h2
        go_wp2_with fail
        go_ret
        exact ⟨by rw [HR.out, or2, if_pos HA.out]; rfl, rfl⟩
    · have HA := Lib.hid (h1 (by omega))
      clear h1 h2
      by_cases hb0 : b = 0
      · have q : (b != 0) = false := by rw [hb0]; rfl
        have HB := Lib.hid hb0
        clear hb0
        go_wp2_with fail
        go_roundw
        case rel => exact ⟨2, by omega, rfl, fun _ => HA.out, fun _ => HB.out, trivial⟩
        case measure => simp [intOf]
      · have q : (b != 0) = true := by simpa using hb0
        clear hb0
        go_wp2_with fail
        go_ret
        exact ⟨by rw [HR.out, or2, if_neg (by simpa using HA.out)]; rfl, rfl⟩
    · have HA := Lib.hid (h1 (by omega))
      have HB := Lib.hid (h2 (by omega))
      clear h1 h2
      go_wp2_with fail
      go_ret
      exact ⟨by rw [HR.out, or2, if_neg (by simpa using HA.out), HB.out]; rfl, rfl⟩
theorem cmp_bd (a b : List UInt8) : -1 ≤ Lib.compareBytes a b ∧ Lib.compareBytes a b ≤ 1 := by
  induction a generalizing b with
  | nil => cases b <;> simp [Lib.compareBytes]
  | cons x r ih =>
    cases b with
    | nil => simp [Lib.compareBytes]
    | cons y s =>
      rw [Lib.compareBytes]
      split
      · omega
      · split
        · omega
        · exact ih s
theorem Compare_any (a b : List UInt8) (w : World) : Calls Try.prog 57 #[.string (bs a), .string (bs b)] w fun e w' => e = .returned (.int .i64 (Lib.compareBytes a b)) ∧ w' = w := by
  have h := u_strings_Compare (bs a) (bs b) w
  rw [bs_list, bs_list] at h
  exact h
open Go.Sort in
set_option maxRecDepth 100000 in
set_option maxHeartbeats 4000000 in
theorem sorted1_any (p q : Ur.Pr) (w : World) : Calls Try.prog 55 #[.agg #[.string (bs p.1), .string (bs p.2)], .agg #[.string (bs q.1), .string (bs q.2)]] w fun e w' => e = .returned (.int .i64 (cfP p q)) ∧ ∃ n os, w' = grow (w.drewN n) os := by
  have C1 := Lib.hid (fun v : World => Compare_any p.1 q.1 v)
  have C2 := Lib.hid (fun v : World => Compare_any p.2 q.2 v)
  have C3 := Lib.hid (fun (g : Nat) (v : World) h => Or_any g (Lib.compareBytes p.1 q.1) (Lib.compareBytes p.2 q.2) v h)
  unfold cfP
  generalize Lib.compareBytes p.1 q.1 = x at *
  generalize Lib.compareBytes p.2 q.2 = y at *
  generalize or2 x y = r at *
  generalize bs p.1 = s1 at *
  generalize bs p.2 = s2 at *
  generalize bs q.1 = t1 at *
  generalize bs q.2 = t2 at *
  have HSL := Lib.hid (fun o : Obj => show (((w.alloc (.cells #[.string s1, .string s2] 32)).alloc (.cells #[.string t1, .string t2] 32)).alloc o).drew.heap[w.heap.size + 1 + 1]? = some o by
    show (((w.alloc (.cells #[.string s1, .string s2] 32)).alloc (.cells #[.string t1, .string t2] 32)).alloc o).heap[w.heap.size + 1 + 1]? = some o
    have := heap_alloc_new ((w.alloc (.cells #[.string s1, .string s2] 32)).alloc (.cells #[.string t1, .string t2] 32)) o
    simpa using this)
  go_enter Try.func55, Try.ntmps55
  go_wp2_with fail
  go_region_law (first
    | (go_simp; go_at_call 57; first | ((with_reducible refine (C1.out _).mono ?_); rintro e w5 ⟨rfl, rfl⟩) | ((with_reducible refine (C2.out _).mono ?_); rintro e w5 ⟨rfl, rfl⟩))
    | (go_simp; go_at_call 56; (with_reducible refine (C3.out _ _ (HSL.out _)).mono ?_); rintro e w6 ⟨rfl, rfl⟩))
  all_goals
    go_wp2_with fail
    go_ret
    refine ⟨rfl, ?_⟩
    rw [alloc_eq_grow, alloc_eq_grow, grow_grow, alloc_eq_grow, grow_grow]
    exact ⟨1, _, rfl⟩
end Go.Proofs.Ytiodbkloecpdcaa
