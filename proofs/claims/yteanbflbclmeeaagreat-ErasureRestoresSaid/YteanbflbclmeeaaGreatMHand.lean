/- Matrices that are handed in: whether they are right, and their cells. -/
import Derived.Test.YteanbflbclmeeaaGreatMText
namespace Go.Proofs.YteanbflbclmeeaaGreat
open Go.RowKit

@[irreducible] def rightB (r c : Int) (len : Nat) : Bool := decide (1 ≤ r ∧ r ≤ 255 ∧ 1 ≤ c ∧ c ≤ 255 ∧ (len : Int) = r * c)
theorem rightB_eq (r c : Int) (len : Nat) : rightB r c len = decide (1 ≤ r ∧ r ≤ 255 ∧ 1 ≤ c ∧ c ≤ 255 ∧ (len : Int) = r * c) := by unfold rightB; rfl
theorem mul_small {r c : Int} (h : 1 ≤ r ∧ r ≤ 255) (h2 : 1 ≤ c ∧ c ≤ 255) : wrap64 (r * c) = r * c := by
  have h3 : 0 ≤ r * c := Int.mul_nonneg (by omega) (by omega)
  have h4 : r * c ≤ 255 * 255 := Int.mul_le_mul h.2 h2.2 (by omega) (by omega)
  unfold wrap64; omega
set_option maxHeartbeats 1000000 in
theorem Right_any (r c : Int) (a0 : Option Addr) (len cap : Nat) (w : World) : Calls Tryz.prog 56 #[.agg #[.int .i64 r, .int .i64 c, .slice a0 len cap]] w fun e w' => e = .returned (.bool (rightB r c len)) ∧ Below w.heap.size w w' := by
  have hR := rightB_eq r c len
  have hm1 := mayB_eq r
  have hm2 := mayB_eq c
  by_cases h1 : 1 ≤ r ∧ r ≤ 255
  · rw [decide_eq_true h1] at hm1
    by_cases h2 : 1 ≤ c ∧ c ≤ 255
    · rw [decide_eq_true h2] at hm2
      have hp := mul_small h1 h2
      have hv : rightB r c len = ((len : Int) == r * c) := by
        rw [hR]
        by_cases h3 : (len : Int) = r * c
        · simp only [h3, h1.1, h1.2, h2.1, h2.2, true_and, decide_true, beq_self_eq_true]
        · rw [decide_eq_false (fun h => h3 h.2.2.2.2)]; simp [h3]
      obtain ⟨p, hpe⟩ : ∃ p, r * c = p := ⟨_, rfl⟩
      rw [hpe] at hp hv
      have HV := Lib.hid hv
      clear hR hv h1 h2
      go_enter Tryz.func56, Tryz.ntmps56
      go_wp2_with (go_at_call 57; (with_reducible refine (mayBe_any _ _).mono ?_); rintro e w' ⟨rfl, rfl⟩)
      go_ret
      exact ⟨ret_bool HV.out.symm, (Below.refl _ _).alloc (Nat.le_refl _) _⟩
    · rw [decide_eq_false h2] at hm2
      have HV : Hid (rightB r c len = false) := Lib.hid (by rw [hR]; exact decide_eq_false (fun h => h2 ⟨h.2.2.1, h.2.2.2.1⟩))
      clear hR h1 h2
      go_enter Tryz.func56, Tryz.ntmps56
      go_wp2_with (go_at_call 57; (with_reducible refine (mayBe_any _ _).mono ?_); rintro e w' ⟨rfl, rfl⟩)
      go_ret
      exact ⟨ret_bool HV.out.symm, (Below.refl _ _).alloc (Nat.le_refl _) _⟩
  · rw [decide_eq_false h1] at hm1
    have HV : Hid (rightB r c len = false) := Lib.hid (by rw [hR]; exact decide_eq_false (fun h => h1 ⟨h.1, h.2.1⟩))
    clear hR h1
    go_enter Tryz.func56, Tryz.ntmps56
    go_wp2_with (go_at_call 57; (with_reducible refine (mayBe_any _ _).mono ?_); rintro e w' ⟨rfl, rfl⟩)
    go_ret
    exact ⟨ret_bool HV.out.symm, (Below.refl _ _).alloc (Nat.le_refl _) _⟩
/-- A matrix as it is handed in, right or not. -/
structure Hand (a0 : Option Addr) (len cap : Nat) (l : List UInt8) (w : World) : Prop where
  hl : l.length = len
  hc : len ≤ cap
  cells : 0 < len → ∃ b o, a0 = some ⟨b, o, none⟩ ∧ b < w.heap.size ∧ w.rangeAt b o (l.map u8v)
theorem Hand.below {B : Nat} {a0 : Option Addr} {len cap : Nat} {l : List UInt8} {w w' : World} (h : Hand a0 len cap l w) (hb : Below B w w') (hB : B = w.heap.size) : Hand a0 len cap l w' :=
  ⟨h.hl, h.hc, fun h0 => by
    obtain ⟨b, o, e, hlt, hr⟩ := h.cells h0
    refine ⟨b, o, e, by have := hb.size; omega, fun j v hv => ?_⟩
    exact (World.cell?_of_block (w := w) (a := ⟨b, o + j, none⟩) (hb.block b (by omega))).trans (hr j v hv)⟩
theorem Hand.drew {a0 : Option Addr} {len cap : Nat} {l : List UInt8} {w : World} (h : Hand a0 len cap l w) : Hand a0 len cap l w.drew := ⟨h.hl, h.hc, h.cells⟩
def matOf (c : Nat) (l : List UInt8) : Mat := fun i j => l.getD (i * c + j) 0
theorem flat_matOf (r c : Nat) (l : List UInt8) (h : l.length = r * c) : flat (matOf c l) r c = l := by
  apply List.ext_getElem?
  intro k
  by_cases hk : k < r * c
  · rw [flat_some _ r c k hk]
    unfold matOf
    rw [show k / c * c + k % c = k by rw [Nat.mul_comm]; exact Nat.div_add_mod k c, List.getD, List.getElem?_eq_getElem (by omega)]; rfl
  · rw [List.getElem?_eq_none (by rw [length_flat]; omega), List.getElem?_eq_none (by omega)]
/-- What a right one is. -/
structure Good (r c : Int) (a0 : Option Addr) (len cap : Nat) (l : List UInt8) (w : World) (rn cn b o : Nat) : Prop where
  er : r = (rn : Int)
  ec : c = (cn : Int)
  r1 : 1 ≤ rn
  r2 : rn ≤ 255
  c1 : 1 ≤ cn
  c2 : cn ≤ 255
  ln : rn * cn = len
  cp : len ≤ cap
  lm : len ≤ 65025
  ea : a0 = some ⟨b, o, none⟩
  lt : b < w.heap.size
  src : Src b o (matOf cn l) rn cn w
theorem Hand.good {r c : Int} {a0 : Option Addr} {len cap : Nat} {l : List UInt8} {w : World} (h : Hand a0 len cap l w) (hr : rightB r c len = true) : ∃ rn cn b o, Good r c a0 len cap l w rn cn b o := by
  rw [rightB_eq, decide_eq_true_eq] at hr
  obtain ⟨h1, h2, h3, h4, h5⟩ := hr
  obtain ⟨rn, rfl⟩ := Int.eq_ofNat_of_zero_le (show 0 ≤ r by omega)
  obtain ⟨cn, rfl⟩ := Int.eq_ofNat_of_zero_le (show 0 ≤ c by omega)
  have hlen : rn * cn = len := by
    have : ((rn * cn : Nat) : Int) = (len : Int) := by rw [h5]; simp
    omega
  have h0 : 0 < len := by rw [← hlen]; exact Nat.mul_pos (by omega) (by omega)
  obtain ⟨b, o, ea, hlt, hrg⟩ := h.cells h0
  have hlm : len ≤ 65025 := by rw [← hlen]; exact Nat.mul_le_mul (show rn ≤ 255 by omega) (show cn ≤ 255 by omega)
  refine ⟨rn, cn, b, o, rfl, rfl, by omega, by omega, by omega, by omega, hlen, h.hc, hlm, ea, hlt, ?_⟩
  unfold Src
  rw [flat_matOf rn cn l (by rw [h.hl, hlen])]; exact hrg
/-- What the program answers: an error, or a matrix of its own. -/
def PA (B code R C : Nat) (M : Mat) (V E : Value) (w : World) : Prop :=
  (code = 0 ∧ E = .nilIface ∧ ∃ g N, R * C = N ∧ B ≤ g ∧ V = tabV g R C N ∧ Tab g M R C w) ∨ (code ≠ 0 ∧ R = 0 ∧ C = 0 ∧ V = noneV ∧ ∃ g, B ≤ g ∧ E = faultV g ∧ FaultAt g code 0 w)
theorem PA.below {B code R C : Nat} {M : Mat} {V E : Value} {w w' : World} (h : PA B code R C M V E w) (hb : Below w.heap.size w w') : PA B code R C M V E w' := by
  rcases h with ⟨h1, h2, g, N, h3, h4, h5, h6⟩ | ⟨h1, h2, h3, h4, g, h5, h6, h7⟩
  · exact .inl ⟨h1, h2, g, N, h3, h4, h5, h6.below hb h6.lt⟩
  · exact .inr ⟨h1, h2, h3, h4, g, h5, h6, h7.keep (hb.block g h7.lt)⟩
theorem PA.alike {B R C : Nat} {M M' : Mat} {V E : Value} {w : World} (h : PA B 0 R C M V E w) (ha : Alike R C M M') : PA B 0 R C M' V E w := by
  rcases h with ⟨h1, h2, g, N, h3, h4, h5, h6⟩ | ⟨h1, _⟩
  · exact .inl ⟨h1, h2, g, N, h3, h4, h5, h6.alike ha⟩
  · exact absurd rfl h1
theorem PA.err {B g : Nat} {c : Nat} {M : Mat} {w : World} (hc : c ≠ 0) (hg : B ≤ g) (h : FaultAt g c 0 w) : PA B c 0 0 M noneV (faultV g) w := .inr ⟨hc, rfl, rfl, rfl, g, hg, rfl, h⟩
theorem PA.ok {B g R C N : Nat} {M : Mat} {w : World} (hN : R * C = N) (hg : B ≤ g) (h : Tab g M R C w) : PA B 0 R C M (tabV g R C N) .nilIface w := .inl ⟨rfl, rfl, g, N, hN, hg, rfl, h⟩
set_option maxHeartbeats 1000000 in
theorem Identity_bad (n : Int) (hn : mayB n = false) (w : World) : Calls Tryz.prog 61 #[.int .i64 n] w fun e w' => ∃ V E, e = .returned (.tuple #[V, E]) ∧ PA w.heap.size 1 0 0 zeroM V E w' ∧ Below w.heap.size w w' := by
  go_enter Tryz.func61, Tryz.ntmps61
  go_wp2_with (go_at_call 57; (with_reducible refine (mayBe_any _ _).mono ?_); rintro e w' ⟨rfl, rfl⟩)
  refine (nothing_any 1 _).mono ?_
  rintro e w1 ⟨g, hg, rfl, hF, hb⟩
  have hR : ResAt w.heap.size 62 w1 := (hb.block _ (by simp)).trans (heap_alloc_new _ _)
  have hb1 : Below w.heap.size w w1 := ((Below.refl _ _).alloc (Nat.le_refl _) _).trans (hb.mono (by simp))
  have hg1 : w.heap.size < g := by simp at hg; omega
  have HF := Lib.hid hF
  have HR := Lib.hid hR
  have HB := Lib.hid hb1
  clear hF hR hb hb1 hg
  unfold noneV faultV
  go_wp2_with (refine wpList_store_whole rfl 62 _ _ rfl w.heap.size zeroRow zeroRow 62 rfl rfl HR.out rfl (by kernel_rfl) (by decide) ?_; intro w2 h2 k2 s2; go_frame)
  refine bodyPost_ret (results_mid2 Tryz.results61 _ _ w.heap.size 0 zeroRow _ rfl (range_of_list h2.out) Tryz.underlying62 rfl (by kernel_rfl)) rfl ⟨_, _, rfl, PA.err (by decide) (by omega) (HF.out.keep (k2.out.block g HF.out.lt (by simp; omega))), below_kept HB.out k2.out (Nat.le_refl _) HB.out.size⟩
set_option maxHeartbeats 1000000 in
theorem Identity_good (n : Nat) (hn : mayB n = true) (h2 : n ≤ 255) (w : World) : Calls Tryz.prog 61 #[.int .i64 n] w fun e w' => ∃ V E, e = .returned (.tuple #[V, E]) ∧ PA w.heap.size 0 n n dl V E w' ∧ Below w.heap.size w w' := by
  obtain ⟨N, hN⟩ : ∃ N, n * n = N := ⟨_, rfl⟩
  have HN := Lib.hid hN
  clear hN
  go_enter Tryz.func61, Tryz.ntmps61
  go_wp2_with (go_at_call 57; (with_reducible refine (mayBe_any _ _).mono ?_); rintro e w' ⟨rfl, rfl⟩)
  refine (ident_any n N HN.out (by omega) _).mono ?_
  rintro e w1 ⟨g, hg, rfl, hT, hb⟩
  have hR : ResAt w.heap.size 62 w1 := (hb.block _ (by simp)).trans (heap_alloc_new _ _)
  have hb1 : Below w.heap.size w w1 := ((Below.refl _ _).alloc (Nat.le_refl _) _).trans (hb.mono (by simp))
  have hg1 : w.heap.size < g := by simp at hg; omega
  have HT := Lib.hid hT
  have HR := Lib.hid hR
  have HB := Lib.hid hb1
  clear hT hR hb hb1 hg
  unfold tabV
  go_wp2_with (refine wpList_store_whole rfl 62 _ _ rfl w.heap.size (tabRow g n n N) zeroRow 62 rfl rfl HR.out rfl (by kernel_rfl) (tabRow_ones _ _ _ _) ?_; intro w2 h2 k2 s2; go_frame)
  refine bodyPost_ret (results_mid2 Tryz.results61 _ _ w.heap.size 0 (tabRow g n n N) _ rfl (range_of_list h2.out) Tryz.underlying62 rfl (by kernel_rfl)) rfl ⟨_, _, rfl, PA.ok HN.out (by omega) (HT.out.keep (k2.out.block g HT.out.lt (by simp; omega))), below_kept HB.out k2.out (Nat.le_refl _) HB.out.size⟩
end Go.Proofs.YteanbflbclmeeaaGreat
