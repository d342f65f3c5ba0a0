/- The functions of layer 7 asked of matrices that lie whole in blocks of their own. -/
import Derived.Test.YteanbflbclmeeaaGreatMFill
namespace Go.Proofs.YteanbflbclmeeaaGreat
open Go.RowKit

/-- A matrix's value. -/
abbrev mv (g r c N : Nat) : Value := .agg #[.int .i64 r, .int .i64 c, .slice (some ⟨g, 0, none⟩) N N]
/-- A matrix in a box. -/
structure BoxT (B g r c N : Nat) (M : Mat) (w : World) : Prop where
  box : w.heap[B]? = some (.cells [Value.int .i64 r, .int .i64 c, .slice (some ⟨g, 0, none⟩) N N].toArray 62 (0, 0))
  tab : Tab g M r c w
theorem BoxT.below {B g r c N : Nat} {M : Mat} {w w' : World} (h : BoxT B g r c N M w) (hb : Below w.heap.size w w') : BoxT B g r c N M w' := ⟨(hb.block B (lt_of_heap h.box)).trans h.box, h.tab.below hb h.tab.lt⟩
theorem BoxT.of {g r c N : Nat} {M : Mat} {w1 w2 : World} {o : Obj} (h2 : w2.heap[w1.heap.size]? = some (.cells [Value.int .i64 r, .int .i64 c, .slice (some ⟨g, 0, none⟩) N N].toArray 62 (0, 0))) (k2 : Kept (w1.alloc o).heap.size [w1.heap.size] (w1.alloc o) w2) (h : Tab g M r c w1) : BoxT w1.heap.size g r c N M w2 ∧ Below w1.heap.size w1 w2 := by
  have hb : Below w1.heap.size w1 w2 := below_kept (below_alloc _ _) k2 (Nat.le_refl _) (by simp)
  exact ⟨⟨h2, h.below hb h.lt⟩, hb⟩
theorem after_box {w1 w2 : World} {o : Obj} (k2 : Kept (w1.alloc o).heap.size [w1.heap.size] (w1.alloc o) w2) : Below w1.heap.size w1 w2 := below_kept (below_alloc _ _) k2 (Nat.le_refl _) (by simp)
theorem PA.tab {B R C : Nat} {M : Mat} {V E : Value} {w : World} (h : PA B 0 R C M V E w) {N : Nat} (hN : R * C = N) : ∃ g, V = mv g R C N ∧ E = .nilIface ∧ Tab g M R C w := by
  subst hN
  rcases h with ⟨_, rfl, g, N, rfl, _, rfl, hT⟩ | ⟨h, _⟩
  · exact ⟨g, rfl, rfl, hT⟩
  · exact absurd rfl h
theorem PA.fault {B code R C : Nat} {M : Mat} {V E : Value} {w : World} (hc : code ≠ 0) (h : PA B code R C M V E w) : ∃ g, V = noneV ∧ E = faultV g ∧ FaultAt g code 0 w := by
  rcases h with ⟨h, _⟩ | ⟨_, _, _, rfl, g, _, rfl, hF⟩
  · exact absurd h hc
  · exact ⟨g, rfl, rfl, hF⟩
theorem mul_le {r c N : Nat} (hr : r ≤ 255) (hc : c ≤ 255) (hN : r * c = N) : N ≤ 65025 := by rw [← hN]; exact Nat.mul_le_mul hr hc
theorem tInvert_ok (g n N : Nat) (M : Mat) (hn1 : 1 ≤ n) (hn2 : n ≤ 255) (hN : n * n = N) (hk : rk n n M = n) (w : World) (h : Tab g M n n w) : Calls Tryz.prog 39 #[mv g n n N] w fun e w' => ∃ g2, e = .returned (.tuple #[mv g2 n n N, .nilIface]) ∧ Tab g2 (invM n M) n n w' ∧ Below w.heap.size w w' :=
  (Invert_sq n g 0 N N M hn1 hn2 hN (Nat.le_refl _) (mul_le hn2 hn2 hN) w h.src h.lt).mono fun e w' hh => by
    obtain ⟨V, E, rfl, hP, hb⟩ := hh
    rcases hP with ⟨_, hP⟩ | ⟨h, _⟩
    · obtain ⟨g2, rfl, rfl, hT⟩ := hP.tab hN
      exact ⟨g2, rfl, hT, hb⟩
    · exact absurd hk h
theorem tInvert_no (g n N : Nat) (M : Mat) (hn1 : 1 ≤ n) (hn2 : n ≤ 255) (hN : n * n = N) (hk : rk n n M ≠ n) (w : World) (h : Tab g M n n w) : Calls Tryz.prog 39 #[mv g n n N] w fun e w' => ∃ g2, e = .returned (.tuple #[noneV, faultV g2]) ∧ FaultAt g2 18 0 w' ∧ Below w.heap.size w w' :=
  (Invert_sq n g 0 N N M hn1 hn2 hN (Nat.le_refl _) (mul_le hn2 hn2 hN) w h.src h.lt).mono fun e w' hh => by
    obtain ⟨V, E, rfl, hP, hb⟩ := hh
    rcases hP with ⟨h, _⟩ | ⟨_, hP⟩
    · exact absurd h hk
    · obtain ⟨g2, rfl, rfl, hF⟩ := hP.fault (by decide)
      exact ⟨g2, rfl, hF, hb⟩
theorem tIdent (n N : Nat) (hn1 : 1 ≤ n) (hn2 : n ≤ 255) (hN : n * n = N) (w : World) : Calls Tryz.prog 61 #[.int .i64 n] w fun e w' => ∃ g, e = .returned (.tuple #[mv g n n N, .nilIface]) ∧ Tab g dl n n w' ∧ Below w.heap.size w w' :=
  (Identity_good n (by rw [mayB_eq]; exact decide_eq_true ⟨by omega, by omega⟩) hn2 w).mono fun e w' hh => by
    obtain ⟨V, E, rfl, hP, hb⟩ := hh
    obtain ⟨g2, rfl, rfl, hT⟩ := hP.tab hN
    exact ⟨g2, rfl, hT, hb⟩
theorem tCauchy (r c N : Nat) (hr1 : 1 ≤ r) (hr2 : r ≤ 255) (hc1 : 1 ≤ c) (hc2 : c ≤ 255) (hrc : r + c ≤ 256) (hN : r * c = N) (w : World) : Calls Tryz.prog 54 #[.int .i64 r, .int .i64 c] w fun e w' => ∃ g, e = .returned (.tuple #[mv g r c N, .nilIface]) ∧ Tab g (cauM c) r c w' ∧ Below w.heap.size w w' :=
  (Cauchy_good r c (by rw [mayB_eq]; exact decide_eq_true ⟨by omega, by omega⟩) (by rw [mayB_eq]; exact decide_eq_true ⟨by omega, by omega⟩) hrc w).mono fun e w' hh => by
    obtain ⟨V, E, rfl, hP, hb⟩ := hh
    obtain ⟨g2, rfl, rfl, hT⟩ := hP.tab hN
    exact ⟨g2, rfl, hT, hb⟩
theorem tUnder (g1 g2 r1 r2 m c N1 N2 N : Nat) (X Y : Mat) (h1 : 1 ≤ r1) (h2 : 1 ≤ r2) (hm : r1 + r2 = m) (hrr : m ≤ 255) (hc1 : 1 ≤ c) (hc2 : c ≤ 255) (hN1 : r1 * c = N1) (hN2 : r2 * c = N2) (hN : m * c = N) (w : World) (hX : Tab g1 X r1 c w) (hY : Tab g2 Y r2 c w) :
    Calls Tryz.prog 62 #[mv g1 r1 c N1, mv g2 r2 c N2] w fun e w' => ∃ g, e = .returned (.tuple #[mv g m c N, .nilIface]) ∧ Tab g (underM r1 X Y) m c w' ∧ Below w.heap.size w w' :=
  (Under_good r1 r2 c g1 0 N1 N1 g2 0 N2 N2 X Y h1 h2 (by omega) hc1 hc2 hN1 hN2 (Nat.le_refl _) (Nat.le_refl _) w hX.src hX.lt hY.src hY.lt).mono fun e w' hh => by
    obtain ⟨V, E, rfl, hP, hb⟩ := hh
    obtain ⟨g2, rfl, rfl, hT⟩ := hP.tab (N := N) (by rw [hm, hN])
    rw [hm] at hT ⊢
    exact ⟨g2, rfl, hT, hb⟩
theorem tPick (g r c N pb po nr capr N2 : Nat) (X : Mat) (f : Nat → Int) (p : Nat → Nat) (hr1 : 1 ≤ r) (hr2 : r ≤ 255) (hc1 : 1 ≤ c) (hc2 : c ≤ 255) (hN : r * c = N) (hn1 : 1 ≤ nr) (hn2 : nr ≤ 255) (hN2 : nr * c = N2) (hp : ∀ j, j < nr → f j = (p j : Int) ∧ p j < r)
    (w : World) (hX : Tab g X r c w) (h : Ints pb po nr f w) (hpl : pb < w.heap.size) :
    Calls Tryz.prog 37 #[mv g r c N, .slice (some ⟨pb, po, none⟩) nr capr] w fun e w' => ∃ g, e = .returned (.tuple #[mv g nr c N2, .nilIface]) ∧ Tab g (pickM X p) nr c w' ∧ Below w.heap.size w w' :=
  (Pick_rows r c g 0 N N pb po nr capr nr X f p hr1 hr2 hc1 hc2 hN (Nat.le_refl _) hn1 hn2 (Nat.le_refl _) hp (fun h => by omega) w hX.src hX.lt h hpl).mono fun e w' hh => by
    obtain ⟨V, E, rfl, hP, hb⟩ := hh
    rcases hP with ⟨_, hP⟩ | ⟨h, _⟩
    · obtain ⟨g2, rfl, rfl, hT⟩ := hP.tab hN2
      exact ⟨g2, rfl, hT, hb⟩
    · omega
theorem mv_ones (g r c N : Nat) : ∀ v ∈ [Value.int .i64 r, .int .i64 c, .slice (some ⟨g, 0, none⟩) N N], v.oneCell' = true := mat_ones _ _ _ _
end Go.Proofs.YteanbflbclmeeaaGreat
