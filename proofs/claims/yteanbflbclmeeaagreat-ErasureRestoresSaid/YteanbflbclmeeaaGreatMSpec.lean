/- Matrices over the field: sums, products, rows brought to steps, inverses, and when there is one. No program is imported here. -/
import Derived.Test.YteanbflbclmeeaaGreatGSpec
namespace Go.Proofs.YteanbflbclmeeaaGreat

abbrev Mat := Nat → Nat → UInt8
/-! Sums. -/
def sumF : Nat → (Nat → UInt8) → UInt8
  | 0, _ => 0
  | n + 1, f => sumF n f ^^^ f n
@[irreducible] def sumX (n : Nat) (f : Nat → UInt8) : UInt8 := sumF n f
theorem sumX_zero (f : Nat → UInt8) : sumX 0 f = 0 := by unfold sumX; rfl
theorem sumX_succ (n : Nat) (f : Nat → UInt8) : sumX (n + 1) f = sumX n f ^^^ f n := by unfold sumX; rfl
theorem xor_zero (a : UInt8) : a ^^^ 0 = a := by simp
theorem zero_xor (a : UInt8) : 0 ^^^ a = a := by simp
theorem xor_same (a : UInt8) : a ^^^ a = 0 := by simp
theorem xor_comm (a b : UInt8) : a ^^^ b = b ^^^ a := by ac_rfl
theorem xor_eq0 {a b : UInt8} (h : a ^^^ b = 0) : a = b := by
  calc a = a ^^^ (b ^^^ b) := by rw [xor_same, xor_zero]
    _ = (a ^^^ b) ^^^ b := by ac_rfl
    _ = b := by rw [h, zero_xor]
theorem tm_xor' (a b c : UInt8) : tm (a ^^^ b) c = tm a c ^^^ tm b c := by rw [tm_comm, tm_xor, tm_comm c a, tm_comm c b]
theorem sumX_congr {n : Nat} {f g : Nat → UInt8} (h : ∀ k, k < n → f k = g k) : sumX n f = sumX n g := by
  induction n with
  | zero => rw [sumX_zero, sumX_zero]
  | succ n ih => rw [sumX_succ, sumX_succ, ih (fun k hk => h k (by omega)), h n (by omega)]
theorem sumX_0 (n : Nat) : sumX n (fun _ => 0) = 0 := by
  induction n with
  | zero => exact sumX_zero _
  | succ n ih => rw [sumX_succ, ih]; rfl
theorem sumX_xor (n : Nat) (f g : Nat → UInt8) : sumX n (fun k => f k ^^^ g k) = sumX n f ^^^ sumX n g := by
  induction n with
  | zero => rw [sumX_zero, sumX_zero, sumX_zero]; rfl
  | succ n ih => rw [sumX_succ, sumX_succ, sumX_succ, ih]; ac_rfl
theorem tm_sumX (c : UInt8) (n : Nat) (f : Nat → UInt8) : tm c (sumX n f) = sumX n (fun k => tm c (f k)) := by
  induction n with
  | zero => rw [sumX_zero, sumX_zero, tm_zero]
  | succ n ih => rw [sumX_succ, sumX_succ, tm_xor, ih]
theorem sumX_tm (c : UInt8) (n : Nat) (f : Nat → UInt8) : tm (sumX n f) c = sumX n (fun k => tm (f k) c) := by
  rw [tm_comm, tm_sumX]; exact sumX_congr fun k _ => tm_comm ..
theorem sumX_swap (m n : Nat) (f : Nat → Nat → UInt8) : sumX m (fun i => sumX n (fun j => f i j)) = sumX n (fun j => sumX m (fun i => f i j)) := by
  induction m with
  | zero => rw [sumX_zero, sumX_congr (g := fun _ => 0) (fun k _ => sumX_zero _), sumX_0]
  | succ m ih => rw [sumX_succ, ih, ← sumX_xor]; exact sumX_congr fun k _ => (sumX_succ _ _).symm
/-- 1 where row and column are the same. -/
def dl (i j : Nat) : UInt8 := if i = j then 1 else 0
theorem dl_same (i : Nat) : dl i i = 1 := by simp [dl]
theorem dl_ne {i j : Nat} (h : i ≠ j) : dl i j = 0 := by simp [dl, h]
theorem dl_comm (i j : Nat) : dl i j = dl j i := by
  by_cases h : i = j
  · rw [h]
  · rw [dl_ne h, dl_ne (fun e => h e.symm)]
theorem sumX_dl (n i : Nat) (f : Nat → UInt8) (h : i < n) : sumX n (fun k => tm (dl i k) (f k)) = f i := by
  induction n with
  | zero => omega
  | succ n ih =>
    rw [sumX_succ]
    by_cases hi : i = n
    · subst hi
      rw [dl_same, one_tm, sumX_congr (g := fun _ => 0) (fun k hk => by rw [dl_ne (by omega), zero_tm]), sumX_0, zero_xor]
    · rw [ih (by omega), dl_ne hi, zero_tm, xor_zero]
theorem sumX_dl' (n j : Nat) (f : Nat → UInt8) (h : j < n) : sumX n (fun k => tm (f k) (dl k j)) = f j := by
  rw [← sumX_dl n j f h]; exact sumX_congr fun k _ => by rw [tm_comm, dl_comm]

/-! Products. -/
def mm (n : Nat) (A B : Mat) : Mat := fun i j => sumX n (fun k => tm (A i k) (B k j))
theorem mm_congr {n : Nat} {A A' B B' : Mat} {i j : Nat} (hA : ∀ k, k < n → A i k = A' i k) (hB : ∀ k, k < n → B k j = B' k j) : mm n A B i j = mm n A' B' i j :=
  sumX_congr fun k hk => by rw [hA k hk, hB k hk]
theorem mm_assoc (m n : Nat) (A B C : Mat) (i j : Nat) : mm m (mm n A B) C i j = mm n A (mm m B C) i j := by
  unfold mm
  rw [sumX_congr (g := fun k => sumX n (fun l => tm (A i l) (tm (B l k) (C k j)))) (fun k _ => by rw [sumX_tm]; exact sumX_congr fun l _ => tm_assoc ..), sumX_swap]
  exact sumX_congr fun l _ => (tm_sumX ..).symm
theorem mm_dl_left {n : Nat} {D : Mat} (M : Mat) {i j : Nat} (hi : i < n) (h : ∀ k, k < n → D i k = dl i k) : mm n D M i j = M i j := by
  rw [mm_congr (A' := dl) (B' := M) h (fun _ _ => rfl)]
  exact sumX_dl n i (fun k => M k j) hi
theorem mm_dl_right {n : Nat} {D : Mat} (M : Mat) {i j : Nat} (hj : j < n) (h : ∀ k, k < n → D k j = dl k j) : mm n M D i j = M i j := by
  rw [mm_congr (A' := M) (B' := dl) (fun _ _ => rfl) h]
  exact sumX_dl' n j (fun k => M i k) hj
/-- Two that make Identity, from either side. -/
structure Pair (n : Nat) (P Q : Mat) : Prop where
  pq : ∀ i j, i < n → j < n → mm n P Q i j = dl i j
  qp : ∀ i j, i < n → j < n → mm n Q P i j = dl i j
/-- W is A with what may be undone done to its rows. -/
def Reach (n : Nat) (A W : Mat) : Prop := ∃ P Q, Pair n P Q ∧ ∀ i j, i < n → W i j = mm n P A i j
theorem Pair.dl (n : Nat) : Pair n dl dl := ⟨fun _ _ hi _ => mm_dl_left _ hi fun _ _ => rfl, fun _ _ hi _ => mm_dl_left _ hi fun _ _ => rfl⟩
theorem Reach.refl (n : Nat) (A : Mat) : Reach n A A := ⟨dl, dl, Pair.dl n, fun _ _ hi => (mm_dl_left _ hi fun _ _ => rfl).symm⟩
/-- What is done to rows alone. -/
def Lin (n : Nat) (op : Mat → Mat) : Prop := ∀ M i j, i < n → op M i j = mm n (op dl) M i j
theorem Reach.op {n : Nat} {A W : Mat} {op po : Mat → Mat} (h : Reach n A W) (h1 : Lin n op) (h2 : Lin n po) (h12 : ∀ M i j, i < n → op (po M) i j = M i j) (h21 : ∀ M i j, i < n → po (op M) i j = M i j) : Reach n A (op W) := by
  obtain ⟨P, Q, hP, hW⟩ := h
  refine ⟨mm n (op Go.Proofs.YteanbflbclmeeaaGreat.dl) P, mm n Q (po Go.Proofs.YteanbflbclmeeaaGreat.dl), ⟨fun i j hi hj => ?_, fun i j hi hj => ?_⟩, fun i j hi => ?_⟩
  · rw [mm_assoc, mm_congr (A' := op Go.Proofs.YteanbflbclmeeaaGreat.dl) (B' := po Go.Proofs.YteanbflbclmeeaaGreat.dl) (fun _ _ => rfl) (fun k hk => by rw [← mm_assoc]; exact mm_dl_left _ hk (fun l hl => hP.pq k l hk hl)), ← h1 _ _ _ hi, h12 _ _ _ hi]
  · rw [mm_assoc, mm_congr (A' := Q) (B' := P) (fun _ _ => rfl) (fun k hk => by
      rw [← mm_assoc]
      exact mm_dl_left _ hk (fun l hl => by rw [← h2 _ _ _ hk, h21 _ _ _ hk])), hP.qp _ _ hi hj]
  · rw [h1 _ _ _ hi, mm_assoc]; exact mm_congr (fun _ _ => rfl) (fun k hk => hW k j hk)

/-! What is done to rows. -/
def swp (p q i : Nat) : Nat := if i = p then q else if i = q then p else i
def swapR (p q : Nat) (M : Mat) : Mat := fun i j => M (swp p q i) j
def scaleR (p : Nat) (x : UInt8) (M : Mat) : Mat := fun i j => if i = p then tm x (M i j) else M i j
def clearR (p : Nat) (c : Nat → UInt8) (M : Mat) : Mat := fun i j => if i = p then M i j else M i j ^^^ tm (c i) (M p j)
theorem swp_lt {p q i n : Nat} (hp : p < n) (hq : q < n) (hi : i < n) : swp p q i < n := by unfold swp; split; exact hq; split <;> assumption
theorem swp_swp (p q i : Nat) : swp p q (swp p q i) = i := by
  unfold swp
  by_cases h : i = p
  · subst h; by_cases hq : q = i <;> simp [hq]
  · by_cases h2 : i = q
    · subst h2; simp [h]
    · simp [h, h2]
theorem swapR_lin {n p q : Nat} (hp : p < n) (hq : q < n) : Lin n (swapR p q) := fun M i j hi => (sumX_dl n (swp p q i) (fun k => M k j) (swp_lt hp hq hi)).symm
theorem scaleR_lin (n p : Nat) (x : UInt8) : Lin n (scaleR p x) := fun M i j hi => by
  unfold mm scaleR
  by_cases h : i = p
  · subst h
    simp only [if_true]
    rw [sumX_congr (g := fun k => tm x (tm (dl i k) (M k j))) (fun k _ => tm_assoc ..), ← tm_sumX, sumX_dl n i (fun k => M k j) hi]
  · simp only [if_neg h]
    exact (sumX_dl n i (fun k => M k j) hi).symm
theorem clearR_lin {n p : Nat} (hp : p < n) (c : Nat → UInt8) : Lin n (clearR p c) := fun M i j hi => by
  unfold mm clearR
  by_cases h : i = p
  · simp only [if_pos h]
    exact (sumX_dl n i (fun k => M k j) hi).symm
  · simp only [if_neg h]
    rw [sumX_congr (g := fun k => tm (dl i k) (M k j) ^^^ tm (c i) (tm (dl p k) (M k j))) (fun k _ => by rw [tm_xor', tm_assoc]), sumX_xor, ← tm_sumX, sumX_dl n i (fun k => M k j) hi, sumX_dl n p (fun k => M k j) hp]
theorem Reach.swap {n p q : Nat} {A W : Mat} (h : Reach n A W) (hp : p < n) (hq : q < n) : Reach n A (swapR p q W) :=
  h.op (swapR_lin hp hq) (swapR_lin hp hq) (fun M i j _ => by unfold swapR; rw [swp_swp]) (fun M i j _ => by unfold swapR; rw [swp_swp])
theorem Reach.scale {n p : Nat} {A W : Mat} (h : Reach n A W) (x : UInt8) (hx : x ≠ 0) : Reach n A (scaleR p x W) :=
  h.op (scaleR_lin n p x) (scaleR_lin n p (inv x))
    (fun M i j _ => by unfold scaleR; split <;> simp_all [← tm_assoc, tm_inv, one_tm])
    (fun M i j _ => by unfold scaleR; split <;> simp_all [← tm_assoc, inv_tm, one_tm])
theorem clear_clear (p : Nat) (c : Nat → UInt8) (M : Mat) (i j : Nat) : clearR p c (clearR p c M) i j = M i j := by
  unfold clearR
  by_cases h : i = p
  · simp [h]
  · simp only [if_neg h, if_true]
    calc _ = M i j ^^^ (tm (c i) (M p j) ^^^ tm (c i) (M p j)) := by ac_rfl
      _ = M i j := by rw [xor_same, xor_zero]
theorem Reach.clear {n p : Nat} {A W : Mat} (h : Reach n A W) (hp : p < n) (c : Nat → UInt8) : Reach n A (clearR p c W) :=
  h.op (clearR_lin hp c) (clearR_lin hp c) (fun _ _ _ _ => clear_clear ..) (fun _ _ _ _ => clear_clear ..)

/-! Rows brought to steps. -/
def leadF (M : Mat) (col : Nat) : Nat → Nat → Nat
  | 0, i => i
  | n + 1, i => if M i col = 0 then leadF M col n (i + 1) else i
@[irreducible] def lead (M : Mat) (r col d : Nat) : Nat := leadF M col (r - d) d
theorem leadF_spec (M : Mat) (col : Nat) : ∀ n i, i ≤ leadF M col n i ∧ leadF M col n i ≤ i + n ∧ (leadF M col n i < i + n → M (leadF M col n i) col ≠ 0) ∧ ∀ k, i ≤ k → k < leadF M col n i → M k col = 0 := by
  intro n
  induction n with
  | zero => intro i; simp only [leadF]; exact ⟨Nat.le_refl _, by omega, by omega, fun k h1 h2 => by omega⟩
  | succ n ih =>
    intro i
    simp only [leadF]
    split
    · rename_i h
      obtain ⟨h1, h2, h3, h4⟩ := ih (i + 1)
      refine ⟨by omega, by omega, fun h5 => h3 (by omega), fun k hk1 hk2 => ?_⟩
      by_cases hk : k = i
      · rw [hk]; exact h
      · exact h4 k (by omega) hk2
    · rename_i h
      exact ⟨by omega, by omega, fun _ => h, fun k h1 h2 => by omega⟩
theorem lead_spec (M : Mat) {r col d : Nat} (hd : d ≤ r) : d ≤ lead M r col d ∧ lead M r col d ≤ r ∧ (lead M r col d < r → M (lead M r col d) col ≠ 0) ∧ ∀ k, d ≤ k → k < lead M r col d → M k col = 0 := by
  have h := leadF_spec M col (r - d) d
  unfold lead
  obtain ⟨h1, h2, h3, h4⟩ := h
  exact ⟨h1, by omega, fun h => h3 (by omega), h4⟩
theorem lead_is (M : Mat) {r col d i : Nat} (hd : d ≤ i) (hi : i < r) (h0 : ∀ k, d ≤ k → k < i → M k col = 0) (h : M i col ≠ 0) : lead M r col d = i := by
  obtain ⟨h1, h2, h3, h4⟩ := lead_spec M (r := r) (col := col) (d := d) (by omega)
  rcases Nat.lt_trichotomy (lead M r col d) i with hl | hl | hl
  · exact absurd (h0 _ h1 hl) (h3 (by omega))
  · exact hl
  · exact absurd (h4 i hd hl) h
theorem lead_none (M : Mat) {r col d : Nat} (hd : d ≤ r) (h0 : ∀ k, d ≤ k → k < r → M k col = 0) : lead M r col d = r := by
  obtain ⟨h1, h2, h3, h4⟩ := lead_spec M (r := r) (col := col) hd
  rcases Nat.lt_or_ge (lead M r col d) r with hl | hl
  · exact absurd (h0 _ h1 hl) (h3 hl)
  · omega
/-- One column. -/
def swS (r col : Nat) (s : Mat × Nat) : Mat := swapR s.2 (lead s.1 r col s.2) s.1
def scS (col d : Nat) (M : Mat) : Mat := scaleR d (inv (M d col)) M
def clS (col d : Nat) (M : Mat) : Mat := clearR d (fun i => M i col) M
def stepM (r col : Nat) (s : Mat × Nat) : Mat × Nat := if lead s.1 r col s.2 < r then (clS col s.2 (scS col s.2 (swS r col s)), s.2 + 1) else s
def red (r : Nat) (A : Mat) : Nat → Mat × Nat
  | 0 => (A, 0)
  | j + 1 => stepM r j (red r A j)
theorem stepM_yes {r col : Nat} {s : Mat × Nat} (h : lead s.1 r col s.2 < r) : stepM r col s = (clS col s.2 (scS col s.2 (swS r col s)), s.2 + 1) := by unfold stepM; rw [if_pos h]
theorem stepM_no {r col : Nat} {s : Mat × Nat} (h : ¬ lead s.1 r col s.2 < r) : stepM r col s = s := by unfold stepM; rw [if_neg h]
theorem red_succ (r : Nat) (A : Mat) (j : Nat) : red r A (j + 1) = stepM r j (red r A j) := rfl
theorem inv_ne {a : UInt8} (h : a ≠ 0) : inv a ≠ 0 := by
  intro h0
  have := tm_inv a h
  rw [h0, tm_zero] at this
  exact absurd this (by decide)
/-- What holds behind each column. -/
structure Steps (r : Nat) (A : Mat) (j : Nat) (s : Mat × Nat) : Prop where
  le : s.2 ≤ j
  ler : s.2 ≤ r
  reach : Reach r A s.1
  low : ∀ i c, s.2 ≤ i → i < r → c < j → s.1 i c = 0
  one : s.2 = j → ∀ i c, i < r → c < j → s.1 i c = dl i c
theorem Steps.step {r j : Nat} {A : Mat} {s : Mat × Nat} (h : Steps r A j s) : Steps r A (j + 1) (stepM r j s) := by
  obtain ⟨M, d⟩ := s
  have hle : d ≤ j := h.le
  have hler : d ≤ r := h.ler
  have hreach : Reach r A M := h.reach
  have hlow : ∀ i c, d ≤ i → i < r → c < j → M i c = 0 := h.low
  have hone : d = j → ∀ i c, i < r → c < j → M i c = dl i c := h.one
  clear h
  obtain ⟨h1, h2, h3, h4⟩ := lead_spec M (r := r) (col := j) hler
  by_cases hf : lead M r j d < r
  · rw [stepM_yes (s := (M, d)) hf]
    obtain ⟨f, hfe⟩ : ∃ f, f = lead M r j d := ⟨_, rfl⟩
    have hsw : swS r j (M, d) = swapR d f M := by unfold swS; rw [hfe]
    rw [← hfe] at hf h1 h3 h4
    have h3 := h3 hf
    simp only [hsw]
    obtain ⟨N, hN⟩ : ∃ N, N = swapR d f M := ⟨_, rfl⟩
    rw [← hN]
    have hNd : N d j ≠ 0 := by rw [hN]; unfold swapR swp; rw [if_pos rfl]; exact h3
    have hNlow : ∀ i c, d ≤ i → i < r → c < j → N i c = 0 := by
      intro i c hi hir hc
      rw [hN]
      unfold swapR swp
      split
      · exact hlow f c h1 hf hc
      · split
        · exact hlow d c (Nat.le_refl _) (by omega) hc
        · exact hlow i c hi hir hc
    have hNone : d = j → ∀ i c, i < r → c < j → N i c = dl i c := by
      intro e i c hi hc
      by_cases hid : d ≤ i
      · rw [hNlow i c hid hi hc, dl_ne (by omega)]
      · rw [hN]
        unfold swapR swp
        rw [if_neg (by omega), if_neg (by omega)]
        exact hone e i c hi hc
    have hNr : Reach r A N := by rw [hN]; exact hreach.swap (by omega) hf
    obtain ⟨O, hO⟩ : ∃ O, O = scS j d N := ⟨_, rfl⟩
    rw [← hO]
    have hOo : ∀ i c, i ≠ d → O i c = N i c := fun i c hi => by rw [hO]; unfold scS scaleR; rw [if_neg hi]
    have hOd : ∀ c, O d c = tm (inv (N d j)) (N d c) := fun c => by rw [hO]; unfold scS scaleR; rw [if_pos rfl]
    have hOr : Reach r A O := by rw [hO]; exact hNr.scale _ (inv_ne hNd)
    have hO1 : O d j = 1 := by rw [hOd, inv_tm _ hNd]
    have hO0 : ∀ c, c < j → O d c = 0 := fun c hc => by rw [hOd, hNlow d c (Nat.le_refl _) (by omega) hc, tm_zero]
    have hCd : ∀ c, clS j d O d c = O d c := fun c => by unfold clS clearR; rw [if_pos rfl]
    have hCo : ∀ i c, i ≠ d → clS j d O i c = O i c ^^^ tm (O i j) (O d c) := fun i c hi => by unfold clS clearR; rw [if_neg hi]
    have hC0 : ∀ i c, c < j → clS j d O i c = O i c := fun i c hc => by
      by_cases hi : i = d
      · subst hi; exact hCd c
      · rw [hCo i c hi, hO0 c hc, tm_zero, xor_zero]
    have hCj : ∀ i, clS j d O i j = dl i d := fun i => by
      by_cases hi : i = d
      · subst hi; rw [hCd, hO1, dl_same]
      · rw [hCo i j hi, hO1, tm_one, xor_same, dl_ne hi]
    refine ⟨by show d + 1 ≤ j + 1; omega, by show d + 1 ≤ r; omega, by unfold clS; exact hOr.clear (by omega) _, ?_, ?_⟩
    · intro i c (hi : d + 1 ≤ i) hir hc
      show clS j d O i c = 0
      by_cases hcj : c = j
      · subst hcj; rw [hCj, dl_ne (by omega)]
      · rw [hC0 i c (by omega), hOo i c (by omega), hNlow i c (by omega) hir (by omega)]
    · intro (e : d + 1 = j + 1) i c hi hc
      show clS j d O i c = dl i c
      by_cases hcj : c = j
      · subst hcj; rw [hCj]; congr 1; omega
      · rw [hC0 i c (by omega)]
        by_cases hid : i = d
        · subst hid; rw [hO0 c (by omega), dl_ne (by omega)]
        · rw [hOo i c hid, hNone (by omega) i c hi (by omega)]
  · rw [stepM_no (s := (M, d)) hf]
    have hfe : lead M r j d = r := by omega
    refine ⟨by show d ≤ j + 1; omega, hler, hreach, ?_, ?_⟩
    · intro i c (hi : d ≤ i) hir hc
      show M i c = 0
      by_cases hcj : c = j
      · subst hcj; exact h4 i hi (by omega)
      · exact hlow i c hi hir (by omega)
    · intro (e : d = j + 1)
      omega
theorem red_steps (r : Nat) (A : Mat) (j : Nat) : Steps r A j (red r A j) := by
  induction j with
  | zero => exact ⟨Nat.le_refl _, Nat.zero_le _, Reach.refl r A, fun _ _ _ _ h => by omega, fun _ _ _ _ h => by omega⟩
  | succ j ih => exact ih.step
/-! Two that are the same where it counts. -/
def Alike (r c : Nat) (A B : Mat) : Prop := ∀ i j, i < r → j < c → A i j = B i j
theorem Alike.step {r c j : Nat} {s t : Mat × Nat} (hj : j < c) (hs : s.2 ≤ r) (h : Alike r c s.1 t.1) (h2 : s.2 = t.2) : Alike r c (stepM r j s).1 (stepM r j t).1 ∧ (stepM r j s).2 = (stepM r j t).2 := by
  obtain ⟨M, d⟩ := s
  obtain ⟨N, e⟩ := t
  have h2 : d = e := h2
  subst h2
  have h : Alike r c M N := h
  have hd : d ≤ r := hs
  obtain ⟨h1, h2, h3, h4⟩ := lead_spec M (r := r) (col := j) hd
  have hl : lead N r j d = lead M r j d := by
    by_cases hf : lead M r j d < r
    · exact lead_is N h1 hf (fun k hk1 hk2 => by rw [← h k j (by omega) hj]; exact h4 k hk1 hk2) (by rw [← h _ j hf hj]; exact h3 hf)
    · rw [show lead M r j d = r by omega]
      exact lead_none N hd (fun k hk1 hk2 => by rw [← h k j (by omega) hj]; exact h4 k hk1 (by omega))
  by_cases hf : lead M r j d < r
  · rw [stepM_yes (s := (M, d)) hf, stepM_yes (s := (N, d)) (by show lead N r j d < r; rw [hl]; exact hf)]
    refine ⟨?_, rfl⟩
    have a1 : Alike r c (swS r j (M, d)) (swS r j (N, d)) := fun i k hi hk => by
      unfold swS swapR
      simp only [hl]
      exact h _ k (swp_lt (by omega) hf hi) hk
    have a2 : Alike r c (scS j d (swS r j (M, d))) (scS j d (swS r j (N, d))) := fun i k hi hk => by
      unfold scS scaleR
      rw [a1 i k hi hk, a1 d j (by omega) hj]
    intro i k hi hk
    show clS j d _ i k = clS j d _ i k
    unfold clS clearR
    simp only []
    rw [a2 i k hi hk, a2 i j hi hj, a2 d k (by omega) hk]
  · rw [stepM_no (s := (M, d)) hf, stepM_no (s := (N, d)) (by show ¬ lead N r j d < r; rw [hl]; exact hf)]
    exact ⟨h, rfl⟩
theorem red_alike {r c : Nat} {A B : Mat} (h : Alike r c A B) : ∀ j, j ≤ c → Alike r c (red r A j).1 (red r B j).1 ∧ (red r A j).2 = (red r B j).2 := by
  intro j
  induction j with
  | zero => intro _; exact ⟨h, rfl⟩
  | succ j ih =>
    intro hj
    obtain ⟨h1, h2⟩ := ih (by omega)
    exact Alike.step (by omega) (red_steps r A j).ler h1 h2
/-! Inverses. -/
def aug (n : Nat) (A : Mat) : Mat := fun i j => if j < n then A i j else dl i (j - n)
@[irreducible] def rk (r c : Nat) (A : Mat) : Nat := (red r A c).2
@[irreducible] def invM (n : Nat) (A : Mat) : Mat := fun i j => (red n (aug n A) n).1 i (n + j)
theorem rk_aug (n : Nat) (A : Mat) : (red n (aug n A) n).2 = rk n n A := by
  unfold rk
  exact (red_alike (c := n) (fun i j _ hj => by unfold aug; rw [if_pos hj]) n (Nat.le_refl _)).2
theorem rk_le (r c : Nat) (A : Mat) : rk r c A ≤ r := by unfold rk; exact (red_steps r A c).ler
theorem rk_alike {r c : Nat} {A B : Mat} (h : Alike r c A B) : rk r c A = rk r c B := by unfold rk; exact (red_alike h c (Nat.le_refl _)).2
theorem invM_alike {n : Nat} {A B : Mat} (h : Alike n n A B) : Alike n n (invM n A) (invM n B) := by
  intro i j hi hj
  unfold invM
  refine (red_alike (c := 2 * n) (fun i j hi hj => ?_) n (by omega)).1 i (n + j) hi (by omega)
  unfold aug
  split
  · rename_i h1; exact h i j hi h1
  · rfl
theorem inv_pair {n : Nat} {A : Mat} (h : rk n n A = n) : Pair n A (invM n A) := by
  have hs := red_steps n (aug n A) n
  rw [← rk_aug] at h
  obtain ⟨P, Q, hP, hW⟩ := hs.reach
  have hI : ∀ i j, i < n → j < n → mm n P A i j = dl i j := fun i j hi hj => by
    rw [← hs.one h i j hi hj, hW i j hi]
    exact mm_congr (fun _ _ => rfl) (fun k hk => by unfold aug; rw [if_pos hj])
  have hB : ∀ i j, i < n → j < n → invM n A i j = P i j := fun i j hi hj => by
    unfold invM
    rw [hW _ _ hi, mm_congr (A' := P) (B' := fun a b => dl a j) (fun _ _ => rfl) (fun k hk => by unfold aug; rw [if_neg (by omega)]; congr 1; omega)]
    exact mm_dl_right P (D := fun a b => dl a j) hj (fun _ _ => rfl)
  have hQ : ∀ i j, i < n → j < n → A i j = Q i j := fun i j hi hj => by
    rw [← mm_dl_left (D := mm n Q P) A hi (fun k hk => hP.qp i k hi hk), mm_assoc]
    exact mm_dl_right Q hj (fun k hk => hI k j hk hj)
  refine ⟨fun i j hi hj => ?_, fun i j hi hj => ?_⟩
  · rw [mm_congr (A' := Q) (B' := P) (fun k hk => hQ i k hi hk) (fun k hk => hB k j hk hj)]; exact hP.qp i j hi hj
  · rw [mm_congr (A' := P) (B' := A) (fun k hk => hB i k hi hk) (fun k hk => rfl)]; exact hI i j hi hj
/-- Where no sum of rows but of none is 0 there is an inverse. -/
theorem rk_full {n : Nat} {A : Mat} (h : ∀ u : Nat → UInt8, (∀ j, j < n → sumX n (fun k => tm (u k) (A k j)) = 0) → ∀ k, k < n → u k = 0) : rk n n A = n := by
  have hs := red_steps n A n
  have hle := hs.ler
  have hr : rk n n A = (red n A n).2 := by unfold rk; rfl
  rcases Nat.lt_or_ge (red n A n).2 n with hl | hl
  · exfalso
    obtain ⟨P, Q, hP, hW⟩ := hs.reach
    have h0 : ∀ k, k < n → P (n - 1) k = 0 := h (P (n - 1)) (fun j hj => by
      rw [← hs.low (n - 1) j (by omega) (by omega) hj, hW (n - 1) j (by omega)]; rfl)
    have h1 := hP.pq (n - 1) (n - 1) (by omega) (by omega)
    rw [dl_same] at h1
    unfold mm at h1
    rw [sumX_congr (g := fun _ => 0) (fun k hk => by rw [h0 k hk, zero_tm]), sumX_0] at h1
    exact absurd h1 (by decide)
  · omega
theorem rk_pair {n : Nat} {A B : Mat} (h : Pair n A B) : rk n n A = n := rk_full fun u hu k hk => by
  have h1 : mm n (fun _ l => u l) (mm n A B) 0 k = u k := mm_dl_right (fun _ l => u l) hk (fun l hl => h.pq l k hl hk)
  rw [← h1, ← mm_assoc]
  unfold mm
  rw [sumX_congr (g := fun _ => 0) (fun l hl => by rw [hu l hl, zero_tm]), sumX_0]
theorem Pair.symm {n : Nat} {A B : Mat} (h : Pair n A B) : Pair n B A := ⟨h.qp, h.pq⟩
theorem pair_uniq {n : Nat} {A B C : Mat} (h : Pair n A B) (h2 : Pair n A C) : Alike n n B C := fun i j hi hj => by
  rw [← mm_dl_right (D := mm n A C) B hj (fun k hk => h2.pq k j hk hj), ← mm_assoc]
  exact mm_dl_left C hi (fun k hk => h.qp i k hi hk)
theorem inv_inv {n : Nat} {A : Mat} (h : rk n n A = n) : rk n n (invM n A) = n ∧ Alike n n (invM n (invM n A)) A := by
  have h1 := inv_pair h
  have h2 := rk_pair h1.symm
  exact ⟨h2, pair_uniq (inv_pair h2) h1.symm⟩
end Go.Proofs.YteanbflbclmeeaaGreat
