/- The calendar, and dates as texts, as plain functions of numbers and bytes. No program is imported here. -/
namespace Mo

def lp (y : Nat) : Bool := y % 4 == 0 && (y % 100 != 0 || y % 400 == 0)
def yl (y : Nat) : Nat := if lp y then 366 else 365
def la (y : Nat) : Nat := (y - 1) / 4 - (y - 1) / 100 + (y - 1) / 400
/-- Days ahead of a year. -/
def D (y : Nat) : Nat := 365 * (y - 1970) + la y - 477
theorem lp_iff (y : Nat) : lp y = true ↔ y % 4 = 0 ∧ (y % 100 ≠ 0 ∨ y % 400 = 0) := by simp [lp]
theorem la_ge (y : Nat) (h : 1970 ≤ y) : 477 ≤ la y := by unfold la; omega
theorem la_succ (y : Nat) (h : 1970 ≤ y) : la (y + 1) = la y + (if lp y then 1 else 0) := by
  unfold la
  by_cases hl : lp y = true
  · rw [if_pos hl]
    have := (lp_iff y).1 hl
    omega
  · rw [if_neg hl]
    have h2 : ¬ (y % 4 = 0 ∧ (y % 100 ≠ 0 ∨ y % 400 = 0)) := fun h => hl ((lp_iff y).2 h)
    omega
theorem D_succ (y : Nat) (h : 1970 ≤ y) : D (y + 1) = D y + yl y := by
  have h1 := la_succ y h
  have h2 := la_ge y h
  unfold D yl
  split at h1 <;> simp_all <;> omega
theorem D_le {a b : Nat} (h : 1970 ≤ a) (hab : a ≤ b) : D a ≤ D b := by
  induction b with
  | zero => omega
  | succ b ih =>
    by_cases hb : a = b + 1
    · rw [hb]; exact Nat.le_refl _
    · have := ih (by omega)
      rw [D_succ b (by omega)]; omega
theorem D_first : D 1970 = 0 := by decide
theorem D_last : D 10000 = 2932897 := by decide

/-- Days of a month; 0 of none. -/
def ml (y m : Nat) : Nat :=
  if m = 2 then (if lp y then 29 else 28) else if m = 4 ∨ m = 6 ∨ m = 9 ∨ m = 11 then 30 else if m = 1 ∨ m = 3 ∨ m = 5 ∨ m = 7 ∨ m = 8 ∨ m = 10 ∨ m = 12 then 31 else 0
theorem ml_pos (y m : Nat) (h1 : 1 ≤ m) (h2 : m ≤ 12) : 28 ≤ ml y m := by
  unfold ml
  repeat' split
  all_goals omega
theorem ml_le (y m : Nat) : ml y m ≤ 31 := by
  unfold ml
  repeat' split
  all_goals omega
theorem ml_none (y m : Nat) (h : m = 0 ∨ 12 < m) : ml y m = 0 := by
  unfold ml
  rw [if_neg (by omega), if_neg (by omega), if_neg (by omega)]
/-- Days of the months ahead. -/
def mm (y : Nat) : Nat → Nat
  | 0 => 0
  | m + 1 => mm y m + ml y m
theorem mm_succ (y m : Nat) : mm y (m + 1) = mm y m + ml y m := rfl
theorem mm_one (y : Nat) : mm y 1 = 0 := by rw [mm_succ, ml_none y 0 (.inl rfl)]; rfl
theorem mm_13 (y : Nat) : mm y 13 = yl y := by
  unfold yl
  cases h : lp y <;> simp [mm, ml, h]
theorem mm_le (y : Nat) {a b : Nat} (h : a ≤ b) : mm y a ≤ mm y b := by
  induction b with
  | zero => obtain rfl : a = 0 := by omega
            exact Nat.le_refl _
  | succ b ih =>
    by_cases hb : a = b + 1
    · rw [hb]; exact Nat.le_refl _
    · have := ih (by omega)
      rw [mm_succ]; omega

/-- Of a day's number: its year, month, day. -/
structure IsD (n y m d : Nat) : Prop where
  y1 : 1970 ≤ y
  y2 : y ≤ 9999
  m1 : 1 ≤ m
  m2 : m ≤ 12
  d1 : 1 ≤ d
  d2 : d ≤ ml y m
  n : n = D y + mm y m + d - 1
theorem IsD.year {n y m d : Nat} (h : IsD n y m d) : D y + mm y m ≤ n ∧ n < D y + mm y (m + 1) ∧ n < D (y + 1) := by
  have h1 := h.n; have h2 := h.d1; have h3 := h.d2
  have h4 := mm_le y (a := m + 1) (b := 13) (by have := h.m2; omega)
  rw [mm_13] at h4
  rw [D_succ y h.y1]
  rw [mm_succ] at h4 ⊢
  omega
theorem IsD.lt {n y m d : Nat} (h : IsD n y m d) : n < 2932897 := by
  have h1 := h.year
  have h2 := D_le (a := y + 1) (b := 10000) (by have := h.y1; omega) (by have := h.y2; omega)
  rw [D_last] at h2
  omega
theorem IsD.uniq {n y m d y' m' d' : Nat} (h : IsD n y m d) (k : IsD n y' m' d') : y = y' ∧ m = m' ∧ d = d' := by
  have h1 := h.year; have k1 := k.year
  have hy : y = y' := by
    rcases Nat.lt_trichotomy y y' with hl | hl | hl
    · have := D_le (a := y + 1) (b := y') (by have := h.y1; omega) (by omega)
      omega
    · exact hl
    · have := D_le (a := y' + 1) (b := y) (by have := k.y1; omega) (by omega)
      omega
  subst hy
  have hm : m = m' := by
    rcases Nat.lt_trichotomy m m' with hl | hl | hl
    · have := mm_le y (a := m + 1) (b := m') (by omega)
      omega
    · exact hl
    · have := mm_le y (a := m' + 1) (b := m) (by omega)
      omega
  subst hm
  refine ⟨rfl, rfl, ?_⟩
  have := h.n; have := k.n; have := h.d1; have := k.d1
  omega
def yrG : Nat → Nat → Nat → Nat
  | 0, y, _ => y
  | k + 1, y, n => if n < D (y + 1) then y else yrG k (y + 1) n
theorem yrG_is (n : Nat) : ∀ k y, 1970 ≤ y → D y ≤ n → n < D (y + k + 1) → y ≤ yrG k y n ∧ yrG k y n ≤ y + k ∧ D (yrG k y n) ≤ n ∧ n < D (yrG k y n + 1) := by
  intro k
  induction k with
  | zero => intro y hy h1 h2; exact ⟨Nat.le_refl _, Nat.le_refl _, h1, h2⟩
  | succ k ih =>
    intro y hy h1 h2
    unfold yrG
    split
    · exact ⟨Nat.le_refl _, by omega, h1, by assumption⟩
    · have := ih (y + 1) (by omega) (by omega) (by rw [show y + 1 + k + 1 = y + (k + 1) + 1 by omega]; exact h2)
      exact ⟨by omega, by omega, this.2.2.1, this.2.2.2⟩
def moG (y r : Nat) : Nat → Nat → Nat
  | 0, m => m
  | k + 1, m => if r < mm y (m + 1) then m else moG y r k (m + 1)
theorem moG_is (y r : Nat) : ∀ k m, mm y m ≤ r → r < mm y (m + k + 1) → m ≤ moG y r k m ∧ moG y r k m ≤ m + k ∧ mm y (moG y r k m) ≤ r ∧ r < mm y (moG y r k m + 1) := by
  intro k
  induction k with
  | zero => intro m h1 h2; exact ⟨Nat.le_refl _, Nat.le_refl _, h1, h2⟩
  | succ k ih =>
    intro m h1 h2
    unfold moG
    split
    · exact ⟨Nat.le_refl _, by omega, h1, by assumption⟩
    · have := ih (m + 1) (by omega) (by rw [show m + 1 + k + 1 = m + (k + 1) + 1 by omega]; exact h2)
      exact ⟨by omega, by omega, this.2.2.1, this.2.2.2⟩
def dy (n : Nat) : Nat := yrG 8029 1970 n
def dm (n : Nat) : Nat := moG (dy n) (n - D (dy n)) 11 1
def dd (n : Nat) : Nat := n - D (dy n) - mm (dy n) (dm n) + 1
theorem dt_is (n : Nat) (h : n < 2932897) : IsD n (dy n) (dm n) (dd n) := by
  obtain ⟨h1, h2, h3, h4⟩ := yrG_is n 8029 1970 (Nat.le_refl _) (by rw [D_first]; omega) (by rw [show 1970 + 8029 + 1 = 10000 from rfl, D_last]; exact h)
  change 1970 ≤ dy n at h1; change dy n ≤ 1970 + 8029 at h2; change D (dy n) ≤ n at h3; change n < D (dy n + 1) at h4
  rw [D_succ _ h1] at h4
  obtain ⟨k1, k2, k3, k4⟩ := moG_is (dy n) (n - D (dy n)) 11 1 (by rw [mm_one]; omega) (by rw [show 1 + 11 + 1 = 13 from rfl, mm_13]; omega)
  change 1 ≤ dm n at k1; change dm n ≤ 1 + 11 at k2; change mm (dy n) (dm n) ≤ n - D (dy n) at k3; change n - D (dy n) < mm (dy n) (dm n + 1) at k4
  rw [mm_succ] at k4
  have hd : dd n = n - D (dy n) - mm (dy n) (dm n) + 1 := rfl
  refine ⟨h1, by omega, k1, by omega, by omega, by omega, by omega⟩
theorem dt_of {n y m d : Nat} (h : IsD n y m d) : y = dy n ∧ m = dm n ∧ d = dd n := h.uniq (dt_is n h.lt)
attribute [irreducible] dy dm dd

/-! Texts. -/
def dg (n : Nat) : UInt8 := UInt8.ofNat (48 + n % 10)
theorem dg_toNat (n : Nat) : (dg n).toNat = 48 + n % 10 := by unfold dg; rw [UInt8.toNat_ofNat']; omega
theorem dg_sub (n : Nat) : (dg n - 48).toNat = n % 10 := by
  have h := dg_toNat n
  rw [UInt8.toNat_sub, h]
  have : (48 : UInt8).toNat = 48 := rfl
  omega
attribute [irreducible] dg
def d2 (n : Nat) : List UInt8 := [dg (n / 10), dg n]
def d4 (n : Nat) : List UInt8 := [dg (n / 1000), dg (n / 100), dg (n / 10), dg n]
/-- So many digits of a number. -/
def dgs : Nat → Nat → List UInt8
  | 0, _ => []
  | k + 1, n => dgs k (n / 10) ++ [dg n]
theorem dgs_2 (n : Nat) : dgs 2 n = d2 n := rfl
theorem dgs_4 (n : Nat) : dgs 4 n = d4 n := by
  simp [dgs, d4, Nat.div_div_eq_div_mul]
theorem dgs_cons (k n : Nat) : dgs (k + 1) n = dg (n / 10 ^ k) :: dgs k n := by
  induction k generalizing n with
  | zero => simp [dgs]
  | succ k ih =>
    rw [dgs, ih, dgs, Nat.div_div_eq_div_mul, show 10 * 10 ^ k = 10 ^ (k + 1) by rw [Nat.pow_succ]; omega]
    rfl
theorem length_dgs (k n : Nat) : (dgs k n).length = k := by
  induction k generalizing n with
  | zero => rfl
  | succ k ih => rw [dgs_cons, List.length_cons, ih]
def dnm : List UInt8 := [83, 117, 110, 77, 111, 110, 84, 117, 101, 87, 101, 100, 84, 104, 117, 70, 114, 105, 83, 97, 116]
def mnm : List UInt8 := [74, 97, 110, 70, 101, 98, 77, 97, 114, 65, 112, 114, 77, 97, 121, 74, 117, 110, 74, 117, 108, 65, 117, 103, 83, 101, 112, 79, 99, 116, 78, 111, 118, 68, 101, 99]
def nm (l : List UInt8) (i : Nat) : List UInt8 := [l.getD (3 * i) 0, l.getD (3 * i + 1) 0, l.getD (3 * i + 2) 0]
/-- What a letter of a form stands for. -/
def fld (y m d t : Nat) (c : UInt8) : List UInt8 :=
  if c = 121 then d4 y else if c = 109 then d2 m else if c = 100 then d2 d else if c = 104 then d2 (t / 3600 % 24) else if c = 105 then d2 (t / 60 % 60) else if c = 115 then d2 (t % 60)
  else if c = 119 then nm dnm ((t / 86400 + 4) % 7) else if c = 110 then nm mnm (m - 1) else [c]
theorem fld_len (y m d t : Nat) (c : UInt8) : 1 ≤ (fld y m d t c).length ∧ (fld y m d t c).length ≤ 4 := by
  unfold fld d4 d2 nm
  repeat' split
  all_goals exact ⟨by simp, by simp⟩
/-- A form, told. -/
def tl (y m d t : Nat) (F : List UInt8) : Nat → List UInt8 → List UInt8
  | 0, s => s
  | k + 1, s => if s.length < F.length then tl y m d t F k (s ++ fld y m d t (F.getD s.length 0)) else s
theorem tl_more (y m d t : Nat) (F : List UInt8) : ∀ k s, s.length ≤ (tl y m d t F k s).length := by
  intro k
  induction k with
  | zero => intro s; exact Nat.le_refl _
  | succ k ih =>
    intro s
    unfold tl
    split
    · have := ih (s ++ fld y m d t (F.getD s.length 0))
      rw [List.length_append] at this
      omega
    · exact Nat.le_refl _
theorem tl_end (y m d t : Nat) (F : List UInt8) (k : Nat) (s : List UInt8) (h : F.length ≤ s.length) : tl y m d t F k s = s := by
  cases k with
  | zero => rfl
  | succ k => unfold tl; rw [if_neg (by omega)]
theorem tl_next (y m d t : Nat) (F : List UInt8) (k : Nat) (s : List UInt8) (h : s.length < F.length) (hk : F.length - s.length ≤ k) :
    ∃ j, k = j + 1 ∧ tl y m d t F k s = tl y m d t F j (s ++ fld y m d t (F.getD s.length 0)) ∧ F.length - (s ++ fld y m d t (F.getD s.length 0)).length ≤ j := by
  cases k with
  | zero => omega
  | succ k =>
    refine ⟨k, rfl, ?_, ?_⟩
    · conv => lhs; unfold tl
      rw [if_pos h]
    · have := (fld_len y m d t (F.getD s.length 0)).1
      rw [List.length_append]; omega
def tx (F : List UInt8) (t : Nat) : List UInt8 := tl (dy (t / 86400)) (dm (t / 86400)) (dd (t / 86400)) t F F.length []
def fS : List UInt8 := [121, 121, 121, 121, 109, 109, 100, 100, 84, 104, 104, 105, 105, 115, 115, 90]
def fL : List UInt8 := [121, 121, 121, 121, 45, 109, 109, 45, 100, 100, 84, 104, 104, 58, 105, 105, 58, 115, 115, 46, 48, 48, 48, 90]
def fW : List UInt8 := [119, 119, 119, 44, 32, 100, 100, 32, 110, 110, 110, 32, 121, 121, 121, 121, 32, 104, 104, 58, 105, 105, 58, 115, 115, 32, 71, 77, 84]
def ck (t : Nat) : List UInt8 := d2 (t / 3600 % 24) ++ [58] ++ d2 (t / 60 % 60) ++ [58] ++ d2 (t % 60)
theorem tx_S (t : Nat) : tx fS t = d4 (dy (t / 86400)) ++ d2 (dm (t / 86400)) ++ d2 (dd (t / 86400)) ++ [84] ++ d2 (t / 3600 % 24) ++ d2 (t / 60 % 60) ++ d2 (t % 60) ++ [90] := by
  unfold tx
  generalize dy (t / 86400) = y; generalize dm (t / 86400) = m; generalize dd (t / 86400) = d
  simp [tl, fS, fld, d4, d2]
theorem tx_L (t : Nat) : tx fL t = d4 (dy (t / 86400)) ++ [45] ++ d2 (dm (t / 86400)) ++ [45] ++ d2 (dd (t / 86400)) ++ [84] ++ ck t ++ [46, 48, 48, 48, 90] := by
  unfold tx
  generalize dy (t / 86400) = y; generalize dm (t / 86400) = m; generalize dd (t / 86400) = d
  simp [tl, fL, fld, d4, d2, ck]
theorem tx_W (t : Nat) : tx fW t = nm dnm ((t / 86400 + 4) % 7) ++ [44, 32] ++ d2 (dd (t / 86400)) ++ [32] ++ nm mnm (dm (t / 86400) - 1) ++ [32] ++ d4 (dy (t / 86400)) ++ [32] ++ ck t ++ [32, 71, 77, 84] := by
  unfold tx
  generalize dy (t / 86400) = y; generalize dm (t / 86400) = m; generalize dd (t / 86400) = d
  simp [tl, fW, fld, d4, d2, ck, nm]

/-! What a text tells, as digits, where a form has a letter. -/
def nums (c : UInt8) : List UInt8 → List UInt8 → Nat → Nat
  | f :: F, s :: S, a => nums c F S (if f = c then a * 10 + (s - 48).toNat else a)
  | _, _, a => a
theorem nums_le (c : UInt8) : ∀ (F S : List UInt8) (a : Nat), nums c F S a + 29 ≤ (a + 29) * 10 ^ F.count c := by
  intro F
  induction F with
  | nil => intro S a; simp [nums]
  | cons f F ih =>
    intro S a
    cases S with
    | nil =>
      simp only [nums]
      have : 1 ≤ 10 ^ (List.count c (f :: F)) := Nat.pos_of_ne_zero (by simp)
      calc a + 29 = (a + 29) * 1 := by omega
        _ ≤ _ := Nat.mul_le_mul_left _ this
    | cons s S =>
      simp only [nums]
      by_cases h : f = c
      · subst h
        rw [if_pos rfl, List.count_cons_self, Nat.pow_succ]
        have h1 := ih S (a * 10 + (s - 48).toNat)
        have h2 := (s - 48).toNat_lt
        have h3 : (a * 10 + (s - 48).toNat + 29) * 10 ^ F.count f ≤ ((a + 29) * 10) * 10 ^ F.count f := Nat.mul_le_mul_right _ (by omega)
        rw [show (a + 29) * (10 ^ List.count f F * 10) = (a + 29) * 10 * 10 ^ List.count f F by ac_rfl]
        omega
      · rw [if_neg h, List.count_cons_of_ne h]
        exact ih S a
theorem nums_snoc (c : UInt8) : ∀ (F S : List UInt8) (a : Nat) (f s : UInt8), F.length = S.length → nums c (F ++ [f]) (S ++ [s]) a = if f = c then nums c F S a * 10 + (s - 48).toNat else nums c F S a := by
  intro F
  induction F with
  | nil =>
    intro S a f s h
    cases S with
    | nil => simp [nums]
    | cons _ _ => simp at h
  | cons f0 F ih =>
    intro S a f s h
    cases S with
    | nil => simp at h
    | cons s0 S =>
      simp only [List.cons_append, nums]
      exact ih S _ f s (by simpa using h)
/-- How many letters there are, at most. -/
theorem nums_small (c : UInt8) (F S : List UInt8) (h : F.count c ≤ 4) : nums c F S 0 ≤ 290000 := by
  have h1 := nums_le c F S 0
  have h2 : 10 ^ F.count c ≤ 10 ^ 4 := Nat.pow_le_pow_right (by omega) h
  have h3 : (0 + 29) * 10 ^ F.count c ≤ 29 * 10000 := by omega
  omega
structure Parts (t : Nat) (Y M d h i s : Nat) : Prop where
  y : Y = dy (t / 86400)
  m : M = dm (t / 86400)
  d : d = dd (t / 86400)
  h : h = t / 3600 % 24
  i : i = t / 60 % 60
  s : s = t % 60
theorem d4_read {y : Nat} (h : y ≤ 9999) : ((0 * 10 + y / 1000 % 10) * 10 + y / 100 % 10) * 10 + y / 10 % 10 = y / 10 ∧ y / 10 * 10 + y % 10 = y := by omega
theorem read_S (t : Nat) (h : t < 253402300800) : Parts t (nums 121 fS (tx fS t) 0) (nums 109 fS (tx fS t) 0) (nums 100 fS (tx fS t) 0) (nums 104 fS (tx fS t) 0) (nums 105 fS (tx fS t) 0) (nums 115 fS (tx fS t) 0) := by
  have hd := dt_is (t / 86400) (by omega)
  have := hd.y2; have := hd.m2; have := hd.d2; have := ml_le (dy (t / 86400)) (dm (t / 86400))
  rw [tx_S]
  constructor <;> simp [nums, fS, d4, d2, dg_sub] <;> omega
theorem read_L (t : Nat) (h : t < 253402300800) : Parts t (nums 121 fL (tx fL t) 0) (nums 109 fL (tx fL t) 0) (nums 100 fL (tx fL t) 0) (nums 104 fL (tx fL t) 0) (nums 105 fL (tx fL t) 0) (nums 115 fL (tx fL t) 0) := by
  have hd := dt_is (t / 86400) (by omega)
  have := hd.y2; have := hd.m2; have := hd.d2; have := ml_le (dy (t / 86400)) (dm (t / 86400))
  rw [tx_L]
  constructor <;> simp [nums, fL, d4, d2, ck, dg_sub] <;> omega
/-- The month that a text has at its ninth byte; 0, if it is none's name. -/
def mon (s : List UInt8) : Nat → Nat
  | 0 => 0
  | k + 1 => if nm mnm (11 - k) = (s.drop 8).take 3 then 12 - k else mon s k
theorem nm_apart : ∀ i < 12, ∀ j < 12, nm mnm i = nm mnm j → i = j := by decide
theorem read_W (t : Nat) (h : t < 253402300800) : Parts t (nums 121 fW (tx fW t) 0) (dm (t / 86400)) (nums 100 fW (tx fW t) 0) (nums 104 fW (tx fW t) 0) (nums 105 fW (tx fW t) 0) (nums 115 fW (tx fW t) 0) := by
  have hd := dt_is (t / 86400) (by omega)
  have := hd.y2; have := hd.m2; have := hd.d2; have := ml_le (dy (t / 86400)) (dm (t / 86400))
  rw [tx_W]
  constructor <;> simp [nums, fW, d4, d2, ck, nm, dg_sub] <;> omega
theorem name_W (t : Nat) : ((tx fW t).drop 8).take 3 = nm mnm (dm (t / 86400) - 1) := by
  rw [tx_W]
  simp [d2, nm]
theorem len_S (t : Nat) : (tx fS t).length = 16 := by rw [tx_S]; simp [d4, d2]
theorem len_L (t : Nat) : (tx fL t).length = 24 := by rw [tx_L]; simp [d4, d2, ck]
theorem len_W (t : Nat) : (tx fW t).length = 29 := by rw [tx_W]; simp [d4, d2, ck, nm]
/-- The moment of its parts. -/
theorem Parts.back {t Y M d h i s : Nat} (p : Parts t Y M d h i s) (ht : t < 253402300800) : IsD (t / 86400) Y M d ∧ (D Y + mm Y M + d - 1) * 86400 + h * 3600 + i * 60 + s = t := by
  have hd := dt_is (t / 86400) (by omega)
  obtain ⟨rfl, rfl, rfl, rfl, rfl, rfl⟩ := p
  refine ⟨hd, ?_⟩
  have := hd.n
  omega
attribute [irreducible] tx
end Mo
