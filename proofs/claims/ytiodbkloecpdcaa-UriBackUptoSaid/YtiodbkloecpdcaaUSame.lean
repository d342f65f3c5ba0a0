/- Two queries compared. -/
import Derived.Test.YtiodbkloecpdcaaUEx2
import Derived.BigQuiet
namespace Go.Proofs.Ytiodbkloecpdcaa
open Go.RowKit

theorem PairsAt.shape {n₀ : Nat} {W : World} {u : Value} {l : List Ur.Pr} (h : PairsAt n₀ W u l) : ∃ a c, u = .slice a l.length c := by
  rcases h with ⟨h, h0⟩ | ⟨b, off, cap, h, _⟩
  · exact ⟨none, 0, by rw [h, h0]; rfl⟩
  · exact ⟨_, _, h⟩
theorem PairsAt.pick {n₀ : Nat} {W : World} {a : Option Addr} {c n : Nat} {l : List Ur.Pr} (h : PairsAt n₀ W (.slice a n c) l) (hl : 0 < l.length) : ∃ b off, a = some ⟨b, off, none⟩ ∧ b < n₀ ∧ W.rangeAt b off (prs l) := by
  rcases h with ⟨_, h0⟩ | ⟨b, off, cap, h, hb, hr⟩
  · rw [h0] at hl; cases hl
  · cases h
    exact ⟨_, _, rfl, hb, hr⟩
theorem pair_beq (p q : Ur.Pr) : ((bs p.1).toList == (bs q.1).toList && (bs p.2).toList == (bs q.2).toList) = decide (p = q) := by
  rw [ByteArray.toList_eq, ByteArray.toList_eq, ByteArray.toList_eq, ByteArray.toList_eq, bs_list, bs_list, bs_list, bs_list]
  obtain ⟨a, b⟩ := p
  obtain ⟨c, d⟩ := q
  by_cases h1 : a = c <;> by_cases h2 : b = d <;> simp [h1, h2]
set_option maxRecDepth 100000 in
set_option maxHeartbeats 4000000 in
theorem same_any (u v : Value) (xs ys : List Ur.Pr) (hx : xs.length ≤ 1099511627776) (w : World) (hu : PairsAt w.heap.size w u xs) (hv : PairsAt w.heap.size w v ys) :
    Calls Try.prog 21 #[u, v] w fun e w' => e = .returned (.bool (decide (xs = ys))) ∧ Below w.heap.size w w' := by
  obtain ⟨a1, c1, rfl⟩ := hu.shape
  obtain ⟨a2, c2, rfl⟩ := hv.shape
  have HU := Lib.hid hu
  have HV := Lib.hid hv
  obtain ⟨R, hR⟩ : ∃ R, R = decide (xs = ys) := ⟨_, rfl⟩
  rw [← hR]
  have HR := Lib.hid hR
  obtain ⟨n, hn⟩ : ∃ n, n = xs.length := ⟨_, rfl⟩
  obtain ⟨m, hm⟩ : ∃ m, m = ys.length := ⟨_, rfl⟩
  have HN := Lib.hid hn
  have HM := Lib.hid hm
  rw [← hn] at hx ⊢
  rw [← hm]
  clear hR hn hm hu hv
  by_cases hnm : n = m
  · have hnm1 : n ≤ m := by omega
    have hnm2 : m ≤ n := by omega
    have q0 : ((n : Int) != (m : Int)) = false := by rw [hnm]; simp
    clear hnm
    go_enter Try.func21, Try.ntmps21
    go_wp2_with fail
    clear q0
    go_loopw [5] (fun iv wr => ∃ j : Nat, j ≤ n ∧ iv = .int .i64 j ∧ Hid (xs.take j = ys.take j) ∧ Hid (Below w.heap.size w wr)) (fun iv _ => n - (intOf iv).toNat)
    case atStart => exact ⟨0, by omega, rfl, Lib.hid (by simp), Lib.hid (Below.refl _ _)⟩
    case round =>
      obtain ⟨j, hj, rfl, HT, HB⟩ := hrel
      by_cases hlt : j < n
      · have hjm : j < m := by omega
        obtain ⟨b1, o1, rfl, hb1, hr1⟩ := HU.out.pick (by rw [← HN.out]; omega)
        obtain ⟨b2, o2, rfl, hb2, hr2⟩ := HV.out.pick (by rw [← HM.out]; omega)
        have k1 := PairsAt.cells hr1 (k := j) (by rw [← HN.out]; exact hlt)
        have k2 := PairsAt.cells hr2 (k := j) (by rw [← HM.out]; exact hjm)
        have t1 := take_pr xs j (by rw [← HN.out]; exact hlt)
        have t2 := take_pr ys j (by rw [← HM.out]; exact hjm)
        have h10 := (HB.out.cell (p := ⟨b1, o1 + j * 2, none⟩) hb1).trans k1.1
        have h11 := (HB.out.cell (p := ⟨b1, o1 + j * 2 + 1, none⟩) hb1).trans k1.2
        have h20 := (HB.out.cell (p := ⟨b2, o2 + j * 2, none⟩) hb2).trans k2.1
        have h21 := (HB.out.cell (p := ⟨b2, o2 + j * 2 + 1, none⟩) hb2).trans k2.2
        have hat : ∀ l : List Ur.Pr, l.getD j ([], []) = ((l[j]?).getD ([], [])) := fun l => by simp [List.getD]
        have HPQ : xs = ys → xs.getD j ([], []) = ys.getD j ([], []) := fun h => by rw [h]
        have HPQ := Lib.hid HPQ
        generalize xs.getD j ([], []) = p at *
        generalize ys.getD j ([], []) = q at *
        have NE := fun v : World => ne_pair (bs p.1) (bs p.2) (bs q.1) (bs q.2) v
        rw [pair_beq] at NE
        have GD := gd_pair
        generalize bs p.1 = x1 at *
        generalize bs p.2 = x2 at *
        generalize bs q.1 = y1 at *
        generalize bs q.2 = y2 at *
        clear k1 k2 hr1 hr2 hat
        by_cases hpq : p = q
        · have HT2 : xs.take (j + 1) = ys.take (j + 1) := by rw [t1, t2, HT.out, hpq]
          have HT3 := Lib.hid HT2
          rw [decide_eq_true hpq, Bool.not_true] at NE
          clear t1 t2 HT2 hpq HPQ
          go_wp2_with fail
          go_quiet (fail)
          go_wp2_with fail
          go_roundw
          case rel => exact ⟨j + 1, by omega, by go_num, HT3, Lib.hid (below_drewN HB.out _)⟩
          case measure => simp [intOf]; omega
        · have hne : xs ≠ ys := fun h => hpq (HPQ.out h)
          have hr : R = false := by rw [HR.out]; exact decide_eq_false hne
          have HRF := Lib.hid hr
          rw [decide_eq_false hpq, Bool.not_false] at NE
          clear t1 t2 hpq HPQ hr hne
          go_wp2_with fail
          go_quiet (fail)
          go_wp2_with fail
          go_ret
          exact ⟨by rw [HRF.out]; rfl, below_drewN HB.out _⟩
      · obtain rfl : j = n := by omega
        have hr : R = true := by
          have h := HT.out
          have e1 : xs.take j = xs := by rw [HN.out, List.take_length]
          have e2 : ys.take j = ys := by rw [show j = ys.length by rw [← HM.out]; omega, List.take_length]
          rw [e1, e2] at h
          rw [HR.out]
          exact decide_eq_true h
        have HRF := Lib.hid hr
        clear hr
        go_wp2_with fail
        go_ret
        exact ⟨by rw [HRF.out]; rfl, HB.out⟩
  · have q0 : ((n : Int) != (m : Int)) = true := by simp; omega
    have hr : R = false := by
      rw [HR.out]
      exact decide_eq_false (fun h => hnm (by rw [HN.out, HM.out, h]))
    have HRF := Lib.hid hr
    clear hr hnm
    go_enter Try.func21, Try.ntmps21
    go_wp2_with fail
    go_ret
    exact ⟨by rw [HRF.out]; rfl, Below.refl _ _⟩
end Go.Proofs.Ytiodbkloecpdcaa
