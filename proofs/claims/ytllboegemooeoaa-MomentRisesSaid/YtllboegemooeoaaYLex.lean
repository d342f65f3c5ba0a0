/- Of two moments the later one is told as the greater text. -/
import Derived.Test.YtllboegemooeoaaYApi
namespace Go.Proofs.Ytllboegemooeoaa
open Go.RowKit

theorem less_cons (a b : UInt8) (x y : List UInt8) : Op.bytesLess (a :: x) (b :: y) = true ↔ a.toNat < b.toNat ∨ a.toNat = b.toNat ∧ Op.bytesLess x y = true := by
  simp only [Op.bytesLess, Bool.or_eq_true, Bool.and_eq_true, decide_eq_true_eq, beq_iff_eq, UInt8.lt_iff_toNat_lt, UInt8.toNat_inj]
theorem less_d2 (a b : Nat) (ha : a < 100) (hb : b < 100) (x y : List UInt8) : Op.bytesLess (Mo.d2 a ++ x) (Mo.d2 b ++ y) = true ↔ a < b ∨ a = b ∧ Op.bytesLess x y = true := by
  show Op.bytesLess (Mo.dg (a / 10) :: Mo.dg a :: x) (Mo.dg (b / 10) :: Mo.dg b :: y) = true ↔ _
  rw [less_cons, less_cons, Mo.dg_toNat, Mo.dg_toNat, Mo.dg_toNat, Mo.dg_toNat]
  generalize (Op.bytesLess x y = true) = p
  constructor
  · rintro (h | ⟨h1, h | ⟨h2, h⟩⟩)
    · left; omega
    · left; omega
    · right; exact ⟨by omega, h⟩
  · rintro (h | ⟨h1, h⟩)
    · by_cases h1 : a / 10 = b / 10
      · right; exact ⟨by omega, .inl (by omega)⟩
      · left; omega
    · subst h1; right; exact ⟨rfl, .inr ⟨rfl, h⟩⟩
theorem less_d4 (a b : Nat) (ha : a < 10000) (hb : b < 10000) (x y : List UInt8) : Op.bytesLess (Mo.d4 a ++ x) (Mo.d4 b ++ y) = true ↔ a < b ∨ a = b ∧ Op.bytesLess x y = true := by
  have e : ∀ n z, Mo.d4 n ++ z = Mo.d2 (n / 100) ++ (Mo.d2 n ++ z) := fun n z => by simp [Mo.d4, Mo.d2, Nat.div_div_eq_div_mul]
  have m : ∀ n, Mo.d2 n = Mo.d2 (n % 100) := fun n => by
    unfold Mo.d2
    rw [← dg_mod (n / 10), ← dg_mod n, ← dg_mod (n % 100 / 10), ← dg_mod (n % 100), show n % 100 / 10 % 10 = n / 10 % 10 by omega, show n % 100 % 10 = n % 10 by omega]
  rw [e, e, less_d2 _ _ (by omega) (by omega), m a, m b, less_d2 _ _ (by omega) (by omega)]
  generalize (Op.bytesLess x y = true) = p
  constructor
  · rintro (h | ⟨h1, h | ⟨h2, h⟩⟩)
    · left; omega
    · left; omega
    · right; exact ⟨by omega, h⟩
  · rintro (h | ⟨h1, h⟩)
    · by_cases h1 : a / 100 = b / 100
      · right; exact ⟨by omega, .inl (by omega)⟩
      · left; omega
    · subst h1; right; exact ⟨rfl, .inr ⟨rfl, h⟩⟩
theorem less_c (c : UInt8) (x y : List UInt8) : Op.bytesLess ([c] ++ x) ([c] ++ y) = true ↔ Op.bytesLess x y = true := by
  show Op.bytesLess (c :: x) (c :: y) = true ↔ _
  rw [less_cons]
  constructor
  · rintro (h | ⟨_, h⟩)
    · omega
    · exact h
  · exact fun h => .inr ⟨rfl, h⟩
theorem less_self (x : List UInt8) : Op.bytesLess x x = true ↔ False := by
  induction x with
  | nil => simp [Op.bytesLess]
  | cons a x ih =>
    rw [less_cons, ih]
    simp
theorem date_less {n y m d n' y' m' d' : Nat} (h : Mo.IsD n y m d) (k : Mo.IsD n' y' m' d') : n < n' ↔ y < y' ∨ y = y' ∧ (m < m' ∨ m = m' ∧ d < d') := by
  have fwd : ∀ {n y m d n' y' m' d' : Nat}, Mo.IsD n y m d → Mo.IsD n' y' m' d' → (y < y' ∨ y = y' ∧ (m < m' ∨ m = m' ∧ d < d')) → n < n' := by
    intro n y m d n' y' m' d' h k hh
    have h1 := h.year; have k1 := k.year
    rcases hh with hl | ⟨rfl, hl | ⟨rfl, hl⟩⟩
    · have := Mo.D_le (a := y + 1) (b := y') (by have := h.y1; omega) (by omega)
      omega
    · have := Mo.mm_le y (a := m + 1) (b := m') (by omega)
      omega
    · have := h.n; have := k.n; have := h.d1; omega
  constructor
  · intro hn
    by_cases hc : y < y' ∨ y = y' ∧ (m < m' ∨ m = m' ∧ d < d')
    · exact hc
    · exfalso
      by_cases he : y = y' ∧ m = m' ∧ d = d'
      · obtain ⟨rfl, rfl, rfl⟩ := he
        have := h.n; have := k.n; omega
      · have := fwd k h (by omega)
        omega
  · exact fwd h k
theorem moment_less (t u : Nat) (ht : t < 253402300800) (hu : u < 253402300800) (P : Prop) (hP : P ↔ False) :
    (Mo.dy (t / 86400) < Mo.dy (u / 86400) ∨ Mo.dy (t / 86400) = Mo.dy (u / 86400) ∧ (Mo.dm (t / 86400) < Mo.dm (u / 86400) ∨ Mo.dm (t / 86400) = Mo.dm (u / 86400) ∧ (Mo.dd (t / 86400) < Mo.dd (u / 86400) ∨ Mo.dd (t / 86400) = Mo.dd (u / 86400) ∧
      (t / 3600 % 24 < u / 3600 % 24 ∨ t / 3600 % 24 = u / 3600 % 24 ∧ (t / 60 % 60 < u / 60 % 60 ∨ t / 60 % 60 = u / 60 % 60 ∧ (t % 60 < u % 60 ∨ t % 60 = u % 60 ∧ P)))))) ↔ t < u := by
  have h := Mo.dt_is (t / 86400) (by omega)
  have k := Mo.dt_is (u / 86400) (by omega)
  have hl := date_less h k
  have he : (Mo.dy (t / 86400) = Mo.dy (u / 86400) ∧ Mo.dm (t / 86400) = Mo.dm (u / 86400) ∧ Mo.dd (t / 86400) = Mo.dd (u / 86400)) ↔ t / 86400 = u / 86400 := by
    constructor
    · rintro ⟨e1, e2, e3⟩
      have h1 := h.n; have k1 := k.n
      rw [e1, e2, e3] at h1
      omega
    · intro e; rw [e]; exact ⟨rfl, rfl, rfl⟩
  generalize Mo.dy (t / 86400) = a at *
  generalize Mo.dm (t / 86400) = b at *
  generalize Mo.dd (t / 86400) = c at *
  generalize Mo.dy (u / 86400) = a' at *
  generalize Mo.dm (u / 86400) = b' at *
  generalize Mo.dd (u / 86400) = c' at *
  clear h k
  rw [hP]
  have ht2 : (t < u) ↔ (t / 86400 < u / 86400 ∨ t / 86400 = u / 86400 ∧ (t / 3600 % 24 < u / 3600 % 24 ∨ t / 3600 % 24 = u / 3600 % 24 ∧ (t / 60 % 60 < u / 60 % 60 ∨ t / 60 % 60 = u / 60 % 60 ∧ t % 60 < u % 60))) := by omega
  rw [ht2, hl, ← he]
  simp only [and_false, or_false]
  generalize (t / 3600 % 24 < u / 3600 % 24 ∨ t / 3600 % 24 = u / 3600 % 24 ∧ (t / 60 % 60 < u / 60 % 60 ∨ t / 60 % 60 = u / 60 % 60 ∧ t % 60 < u % 60)) = p
  by_cases e1 : a = a' <;> by_cases e2 : b = b' <;> by_cases e3 : c = c' <;> simp_all
theorem less_S (t u : Nat) (ht : t < 253402300800) (hu : u < 253402300800) : Op.bytesLess (Mo.tx Mo.fS t) (Mo.tx Mo.fS u) = true ↔ t < u := by
  have h := Mo.dt_is (t / 86400) (by omega)
  have k := Mo.dt_is (u / 86400) (by omega)
  have := h.y2; have := k.y2; have := h.m2; have := k.m2; have := h.d2; have := k.d2
  have := Mo.ml_le (Mo.dy (t / 86400)) (Mo.dm (t / 86400)); have := Mo.ml_le (Mo.dy (u / 86400)) (Mo.dm (u / 86400))
  rw [Mo.tx_S, Mo.tx_S]
  simp only [List.append_assoc]
  rw [less_d4 _ _ (by omega) (by omega), less_d2 _ _ (by omega) (by omega), less_d2 _ _ (by omega) (by omega), less_c, less_d2 _ _ (by omega) (by omega), less_d2 _ _ (by omega) (by omega), less_d2 _ _ (by omega) (by omega)]
  exact moment_less t u ht hu _ (less_self _)
theorem less_L (t u : Nat) (ht : t < 253402300800) (hu : u < 253402300800) : Op.bytesLess (Mo.tx Mo.fL t) (Mo.tx Mo.fL u) = true ↔ t < u := by
  have h := Mo.dt_is (t / 86400) (by omega)
  have k := Mo.dt_is (u / 86400) (by omega)
  have := h.y2; have := k.y2; have := h.m2; have := k.m2; have := h.d2; have := k.d2
  have := Mo.ml_le (Mo.dy (t / 86400)) (Mo.dm (t / 86400)); have := Mo.ml_le (Mo.dy (u / 86400)) (Mo.dm (u / 86400))
  rw [Mo.tx_L, Mo.tx_L]
  unfold Mo.ck
  simp only [List.append_assoc]
  rw [less_d4 _ _ (by omega) (by omega), less_c, less_d2 _ _ (by omega) (by omega), less_c, less_d2 _ _ (by omega) (by omega), less_c, less_d2 _ _ (by omega) (by omega), less_c, less_d2 _ _ (by omega) (by omega), less_c, less_d2 _ _ (by omega) (by omega)]
  exact moment_less t u ht hu _ (less_self _)
theorem less_bs (a b : List UInt8) (v : Bool) (h : Op.bytesLess a b = true ↔ v = true) : Op.bytesLess (bs a).toList (bs b).toList = v := by
  rw [ByteArray.toList_eq, ByteArray.toList_eq, bs_list, bs_list]
  exact Bool.eq_iff_iff.2 h
end Go.Proofs.Ytllboegemooeoaa
