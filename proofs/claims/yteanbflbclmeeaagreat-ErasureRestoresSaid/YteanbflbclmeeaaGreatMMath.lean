/- Any rows of Identity with Cauchy under it can be turned round. No program is imported here. -/
import Derived.Test.YteanbflbclmeeaaGreatMSpec
namespace Go.Proofs.YteanbflbclmeeaaGreat

instance : Std.Commutative tm := ⟨tm_comm⟩
instance : Std.Associative tm := ⟨tm_assoc⟩
/-- The sum of a list. -/
def xl : List UInt8 → UInt8
  | [] => 0
  | a :: l => a ^^^ xl l
theorem xl_append (a b : List UInt8) : xl (a ++ b) = xl a ^^^ xl b := by
  induction a with
  | nil => exact (zero_xor _).symm
  | cons x a ih => rw [List.cons_append, xl, ih, xl]; ac_rfl
theorem sumX_xl (n : Nat) (f : Nat → UInt8) : sumX n f = xl ((List.range n).map f) := by
  induction n with
  | zero => exact sumX_zero f
  | succ n ih => rw [sumX_succ, ih, List.range_succ, List.map_append, xl_append]; simp [xl]
theorem xl_filter (l : List Nat) (q : Nat → Bool) (f : Nat → UInt8) (h : ∀ r ∈ l, q r = false → f r = 0) : xl (l.map f) = xl ((l.filter q).map f) := by
  induction l with
  | nil => rfl
  | cons a l ih =>
    have ih' := ih (fun r hr => h r (List.mem_cons_of_mem _ hr))
    rw [List.map_cons, xl, ih']
    cases hq : q a with
    | true => rw [List.filter_cons_of_pos hq, List.map_cons, xl]
    | false => rw [List.filter_cons_of_neg (by simp [hq]), h a (List.mem_cons_self ..) hq, zero_xor]
/-- What a column of a Cauchy matrix sums to. -/
def cs (L : List (UInt8 × UInt8)) (y : UInt8) : UInt8 := xl (L.map fun a => tm a.1 (inv (a.2 ^^^ y)))
theorem cs_cons (a : UInt8 × UInt8) (L : List (UInt8 × UInt8)) (y : UInt8) : cs (a :: L) y = tm a.1 (inv (a.2 ^^^ y)) ^^^ cs L y := rfl
theorem xor_ne0 {a b : UInt8} (h : a ≠ b) : a ^^^ b ≠ 0 := fun e => h (xor_eq0 e)
theorem num_eq (x y x1 y1 : UInt8) : tm (x1 ^^^ y) (x ^^^ y1) ^^^ tm (x1 ^^^ y1) (x ^^^ y) = tm (x1 ^^^ x) (y1 ^^^ y) := by
  rw [tm_xor', tm_xor, tm_xor, tm_xor', tm_xor, tm_xor, tm_xor', tm_xor, tm_xor, tm_comm y x, tm_comm y y1, tm_comm y1 x]
  calc _ = (tm x1 y1 ^^^ tm x1 y ^^^ (tm x y1 ^^^ tm x y)) ^^^ ((tm x1 x ^^^ tm x1 x) ^^^ (tm y1 y ^^^ tm y1 y)) := by ac_rfl
    _ = _ := by rw [xor_same, xor_same, xor_same, xor_zero]
theorem term_eq (u x y x1 y1 : UInt8) (h1 : x ≠ y) (h2 : x1 ≠ y) (h3 : x ≠ y1) :
    tm u (inv (x ^^^ y)) ^^^ tm (tm (x1 ^^^ y1) (inv (x1 ^^^ y))) (tm u (inv (x ^^^ y1))) = tm (tm (tm u (tm (x1 ^^^ x) (inv (x ^^^ y1)))) (inv (x ^^^ y))) (tm (y1 ^^^ y) (inv (x1 ^^^ y))) := by
  have e2 := tm_inv _ (xor_ne0 h2)
  have e3 := tm_inv _ (xor_ne0 h3)
  have e1 := tm_inv _ (xor_ne0 h1)
  have n := num_eq x y x1 y1
  obtain ⟨p, hp⟩ : ∃ p, p = x ^^^ y := ⟨_, rfl⟩
  obtain ⟨q, hq⟩ : ∃ q, q = x1 ^^^ y := ⟨_, rfl⟩
  obtain ⟨r, hr⟩ : ∃ r, r = x ^^^ y1 := ⟨_, rfl⟩
  obtain ⟨s, hs⟩ : ∃ s, s = x1 ^^^ y1 := ⟨_, rfl⟩
  rw [← hp] at e1 n ⊢
  rw [← hq] at e2 n ⊢
  rw [← hr] at e3 n ⊢
  rw [← hs] at n ⊢
  have l1 : tm u (inv p) = tm (tm (tm u (inv p)) (tm (inv q) (inv r))) (tm q r) := by
    calc tm u (inv p) = tm (tm (tm u (inv p)) 1) 1 := by rw [tm_one, tm_one]
      _ = tm (tm (tm u (inv p)) (tm q (inv q))) (tm r (inv r)) := by rw [e2, e3]
      _ = _ := by ac_rfl
  have l2 : tm (tm s (inv q)) (tm u (inv r)) = tm (tm (tm u (inv p)) (tm (inv q) (inv r))) (tm s p) := by
    calc tm (tm s (inv q)) (tm u (inv r)) = tm (tm (tm s (inv q)) (tm u (inv r))) 1 := by rw [tm_one]
      _ = tm (tm (tm s (inv q)) (tm u (inv r))) (tm p (inv p)) := by rw [e1]
      _ = _ := by ac_rfl
  rw [l1, l2, ← tm_xor, n]
  ac_rfl
theorem cs_step (x1 y1 y : UInt8) (h2 : x1 ≠ y) : ∀ (L : List (UInt8 × UInt8)), (∀ a ∈ L, a.2 ≠ y ∧ a.2 ≠ y1) →
    tm (cs (L.map fun a => (tm a.1 (tm (x1 ^^^ a.2) (inv (a.2 ^^^ y1))), a.2)) y) (tm (y1 ^^^ y) (inv (x1 ^^^ y))) = cs L y ^^^ tm (tm (x1 ^^^ y1) (inv (x1 ^^^ y))) (cs L y1) := by
  intro L
  induction L with
  | nil => intro _; show tm 0 _ = 0 ^^^ tm _ 0; rw [zero_tm, tm_zero]; rfl
  | cons a L ih =>
    intro h
    have ih' := ih (fun b hb => h b (List.mem_cons_of_mem _ hb))
    obtain ⟨ha, hb⟩ := h a (List.mem_cons_self ..)
    rw [List.map_cons, cs_cons, cs_cons, cs_cons, tm_xor', ih', tm_xor, ← term_eq a.1 a.2 y x1 y1 ha h2 hb]
    ac_rfl
theorem tm_ne {a b : UInt8} (ha : a ≠ 0) (hb : b ≠ 0) : tm a b ≠ 0 := fun h => by rcases (tm_eq_zero a b).1 h with h | h; exact ha h; exact hb h
theorem cauchy_zero : ∀ (n : Nat) (L : List (UInt8 × UInt8)) (ys : List UInt8), L.length = n → n ≤ ys.length → L.Pairwise (fun a b => a.2 ≠ b.2) → ys.Pairwise (· ≠ ·) → (∀ a ∈ L, ∀ y ∈ ys, a.2 ≠ y) → (∀ y ∈ ys, cs L y = 0) → ∀ a ∈ L, a.1 = 0 := by
  intro n
  induction n with
  | zero => intro L ys hl _ _ _ _ _ a ha; rw [List.eq_nil_of_length_eq_zero hl] at ha; cases ha
  | succ n ih =>
    intro L ys hl hn hx hy hd h0
    match L, ys, hl, hn with
    | (u1, x1) :: L, y1 :: ys, hl, hn =>
      simp only [List.length_cons] at hl hn
      rw [List.pairwise_cons] at hx hy
      have hd1 : ∀ a ∈ L, ∀ y ∈ ys, a.2 ≠ y := fun a ha y hy => hd a (List.mem_cons_of_mem _ ha) y (List.mem_cons_of_mem _ hy)
      have hL : ∀ a ∈ L, a.2 ≠ y1 := fun a ha => hd a (List.mem_cons_of_mem _ ha) y1 (List.mem_cons_self ..)
      have h1 := h0 y1 (List.mem_cons_self ..)
      rw [cs_cons] at h1
      have h1e : tm u1 (inv (x1 ^^^ y1)) = cs L y1 := xor_eq0 h1
      have hx1y1 : x1 ≠ y1 := hd (u1, x1) (List.mem_cons_self ..) y1 (List.mem_cons_self ..)
      have ih' := ih (L.map fun a => (tm a.1 (tm (x1 ^^^ a.2) (inv (a.2 ^^^ y1))), a.2)) ys (by rw [List.length_map]; omega) (by omega) (by rw [List.pairwise_map]; exact hx.2) hy.2
        (fun a ha y hy => by obtain ⟨b, hb, rfl⟩ := List.mem_map.1 ha; exact hd1 b hb y hy) (fun y hyy => by
          have hxy : x1 ≠ y := hd (u1, x1) (List.mem_cons_self ..) y (List.mem_cons_of_mem _ hyy)
          have hs := cs_step x1 y1 y hxy L (fun a ha => ⟨hd1 a ha y hyy, hL a ha⟩)
          have h2 := h0 y (List.mem_cons_of_mem _ hyy)
          rw [cs_cons] at h2
          have h3 : tm (tm (x1 ^^^ y1) (inv (x1 ^^^ y))) (cs L y1) = tm u1 (inv (x1 ^^^ y)) := by
            rw [← h1e]
            calc _ = tm (tm u1 (inv (x1 ^^^ y))) (tm (x1 ^^^ y1) (inv (x1 ^^^ y1))) := by ac_rfl
              _ = _ := by rw [tm_inv _ (xor_ne0 hx1y1), tm_one]
          have h2' : tm u1 (inv (x1 ^^^ y)) ^^^ cs L y = 0 := h2
          rw [h3, xor_comm (cs L y), h2'] at hs
          rcases (tm_eq_zero _ _).1 hs with h | h
          · exact h
          · exact absurd h (tm_ne (xor_ne0 (fun e => (hy.1 y hyy) e)) (inv_ne (xor_ne0 hxy))))
      have hz : ∀ a ∈ L, a.1 = 0 := fun a ha => by
        have := ih' _ (List.mem_map.2 ⟨a, ha, rfl⟩)
        rcases (tm_eq_zero _ _).1 this with h | h
        · exact h
        · exact absurd h (tm_ne (xor_ne0 (hx.1 a ha)) (inv_ne (xor_ne0 (hL a ha))))
      have hc0 : cs L y1 = 0 := by
        have : ∀ (M : List (UInt8 × UInt8)), (∀ a ∈ M, a.1 = 0) → cs M y1 = 0 := by
          intro M
          induction M with
          | nil => intro _; rfl
          | cons b M ihM => intro hM; rw [cs_cons, hM b (List.mem_cons_self ..), zero_tm, zero_xor]; exact ihM fun c hc => hM c (List.mem_cons_of_mem _ hc)
        exact this L hz
      intro a ha
      rcases List.mem_cons.1 ha with rfl | ha
      · rw [hc0] at h1e
        rcases (tm_eq_zero _ _).1 h1e with h | h
        · exact h
        · exact absurd h (inv_ne (xor_ne0 hx1y1))
      · exact hz a ha
/-- A list without repetition is no longer than one that has all of it. -/
theorem le_of_sub : ∀ (A B : List Nat), A.Pairwise (· ≠ ·) → (∀ a ∈ A, a ∈ B) → A.length ≤ B.length := by
  intro A
  induction A with
  | nil => intro B _ _; exact Nat.zero_le _
  | cons a A ih =>
    intro B hA hB
    rw [List.pairwise_cons] at hA
    have ha := hB a (List.mem_cons_self ..)
    have hle := ih (B.erase a) hA.2 (fun b hb => (List.mem_erase_of_ne (hA.1 b hb).symm).2 (hB b (List.mem_cons_of_mem _ hb)))
    rw [List.length_erase_of_mem ha] at hle
    have := List.length_pos_of_mem ha
    rw [List.length_cons]; omega
theorem length_parts (l : List Nat) (q : Nat → Bool) : (l.filter q).length + (l.filter fun a => !q a).length = l.length := by
  induction l with
  | nil => rfl
  | cons a l ih =>
    cases hq : q a with
    | true => rw [List.filter_cons_of_pos hq, List.filter_cons_of_neg (by simp [hq]), List.length_cons, List.length_cons]; omega
    | false => rw [List.filter_cons_of_neg (by simp [hq]), List.filter_cons_of_pos (by simp [hq]), List.length_cons, List.length_cons]; omega
/-- k rows, each once, of Identity with a Cauchy matrix under it: the number of the row tells which. -/
theorem rows_full (k n : Nat) (P : Mat) (p : Nat → Nat) (num : Nat → UInt8) (hnum : ∀ a b, a < n → b < n → num a = num b → a = b) (hkn : k ≤ n) (hp : ∀ r, r < k → p r < n) (hinj : ∀ r s, r < k → s < k → p r = p s → r = s)
    (h1 : ∀ r j, r < k → j < k → p r < k → P r j = dl (p r) j) (h2 : ∀ r j, r < k → j < k → k ≤ p r → P r j = inv (num (p r) ^^^ num j)) : rk k k P = k := by
  refine rk_full fun u hu => ?_
  obtain ⟨isC, hC⟩ : ∃ isC : Nat → Bool, isC = fun r => decide (k ≤ p r) := ⟨_, rfl⟩
  obtain ⟨I, hI⟩ : ∃ I, I = (List.range k).filter fun r => !isC r := ⟨_, rfl⟩
  obtain ⟨ys, hys⟩ : ∃ ys, ys = (List.range k).filter fun j => !(I.map p).contains j := ⟨_, rfl⟩
  have hnd : (List.range k).Pairwise (· ≠ ·) := List.pairwise_lt_range.imp (fun h => Nat.ne_of_lt h)
  have hcnt : ((List.range k).filter isC).length ≤ ys.length := by
    have e1 := length_parts (List.range k) isC
    have e2 := length_parts (List.range k) fun j => (I.map p).contains j
    rw [← hI] at e1
    rw [← hys] at e2
    have e3 := le_of_sub ((List.range k).filter fun j => (I.map p).contains j) (I.map p) (hnd.filter _) (fun a ha => by
      have := (List.mem_filter.1 ha).2
      simpa using this)
    rw [List.length_map] at e3
    omega
  have hCz : ∀ r, r < k → k ≤ p r → u r = 0 := by
    have hz := cauchy_zero _ (((List.range k).filter isC).map fun r => (u r, num (p r))) (ys.map num) rfl (by rw [List.length_map, List.length_map]; exact hcnt)
      (by
        rw [List.pairwise_map]
        refine List.Pairwise.imp_of_mem ?_ (hnd.filter _)
        intro a b ha hb hab e
        have ha' := List.mem_range.1 (List.mem_filter.1 ha).1
        have hb' := List.mem_range.1 (List.mem_filter.1 hb).1
        exact hab (hinj a b ha' hb' (hnum _ _ (hp a ha') (hp b hb') e)))
      (by
        rw [List.pairwise_map]
        refine List.Pairwise.imp_of_mem ?_ (by rw [hys]; exact hnd.filter _)
        intro a b ha hb hab e
        rw [hys] at ha hb
        have ha' := List.mem_range.1 (List.mem_filter.1 ha).1
        have hb' := List.mem_range.1 (List.mem_filter.1 hb).1
        exact hab (hnum a b (by omega) (by omega) e))
      (by
        intro a ha y hy
        obtain ⟨r, hr, rfl⟩ := List.mem_map.1 ha
        obtain ⟨j, hj, rfl⟩ := List.mem_map.1 hy
        have hr' := List.mem_range.1 (List.mem_filter.1 hr).1
        have hrc := (List.mem_filter.1 hr).2
        rw [hC] at hrc
        rw [hys] at hj
        have hj' := List.mem_range.1 (List.mem_filter.1 hj).1
        intro e
        have := hnum _ _ (hp r hr') (by omega) e
        have := of_decide_eq_true hrc
        omega)
      (by
        intro y hy
        obtain ⟨j, hj, rfl⟩ := List.mem_map.1 hy
        rw [hys] at hj
        have hj' := List.mem_range.1 (List.mem_filter.1 hj).1
        have hjn := (List.mem_filter.1 hj).2
        rw [← hu j hj', sumX_xl, xl_filter (List.range k) isC _ (fun r hr hq => by
          have hr' := List.mem_range.1 hr
          have hpr : p r < k := by
            rw [hC] at hq
            have := of_decide_eq_false hq
            omega
          rw [h1 r j hr' hj' hpr, dl_ne, tm_zero]
          intro e
          rw [Bool.not_eq_true'] at hjn
          have hm : j ∈ I.map p := List.mem_map.2 ⟨r, by rw [hI]; exact List.mem_filter.2 ⟨hr, by rw [hq]; rfl⟩, e⟩
          have hc : (I.map p).contains j = true := by simpa using hm
          rw [hc] at hjn
          cases hjn)]
        unfold cs
        rw [List.map_map]
        congr 1
        refine List.map_congr_left fun r hr => ?_
        have hr' := List.mem_range.1 (List.mem_filter.1 hr).1
        have hrc := (List.mem_filter.1 hr).2
        rw [hC] at hrc
        show tm (u r) (inv (num (p r) ^^^ num j)) = _
        rw [h2 r j hr' hj' (of_decide_eq_true hrc)])
    intro r hr hpr
    exact hz (u r, num (p r)) (List.mem_map.2 ⟨r, List.mem_filter.2 ⟨List.mem_range.2 hr, by rw [hC]; exact decide_eq_true hpr⟩, rfl⟩)
  intro r hr
  by_cases hpr : k ≤ p r
  · exact hCz r hr hpr
  · have hs := hu (p r) (by omega)
    rw [sumX_congr (g := fun s => tm (dl r s) (u s)) (fun s hs => by
      by_cases hps : k ≤ p s
      · rw [hCz s hs hps, zero_tm, tm_zero]
      · rw [h1 s (p r) hs (by omega) (by omega), tm_comm]
        by_cases he : r = s
        · subst he; rw [dl_same, dl_same]
        · rw [dl_ne he, dl_ne (fun e => he (hinj r s hr hs e.symm))]), sumX_dl k r u hr] at hs
    exact hs
end Go.Proofs.YteanbflbclmeeaaGreat
