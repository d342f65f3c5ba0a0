/- The plain mathematics of layer 3: sums, lists of texts, records, as functions on lists of bytes. No program is imported here. -/
namespace Fr

/-! CRC-32C. -/
def low (r : UInt32) : UInt32 := r &&& 1
def half (r : UInt32) : UInt32 := r >>> 1
def tap (r : UInt32) : UInt32 := r ^^^ 2197175160
def mix (r : UInt32) (c : UInt8) : UInt32 := r ^^^ UInt32.ofNat c.toNat
def nt (r : UInt32) : UInt32 := ~~~r
def xr (a b : UInt32) : UInt32 := a ^^^ b
def step (r : UInt32) : UInt32 := if low r = 0 then half r else tap (half r)
theorem step_0 {r : UInt32} (h : low r = 0) : step r = half r := by rw [step, if_pos h]
theorem step_1 {r : UInt32} (h : ¬ low r = 0) : step r = tap (half r) := by rw [step, if_neg h]
theorem low_or (r : UInt32) : low r = 0 ∨ low r = 1 := by
  have h : r &&& 1 = r % 2 := by
    apply UInt32.toNat.inj
    rw [UInt32.toNat_and, UInt32.toNat_mod]
    exact Nat.and_two_pow_sub_one_eq_mod r.toNat 1
  have e : (r % 2).toNat = r.toNat % 2 := by rw [UInt32.toNat_mod]; rfl
  rcases Nat.mod_two_eq_zero_or_one r.toNat with h0 | h1
  · left; rw [low, h]; apply UInt32.toNat.inj; rw [e, h0]; rfl
  · right; rw [low, h]; apply UInt32.toNat.inj; rw [e, h1]; rfl
def steps : Nat → UInt32 → UInt32
  | 0, r => r
  | k + 1, r => step (steps k r)
theorem steps_zero (r : UInt32) : steps 0 r = r := rfl
theorem steps_succ (k : Nat) (r : UInt32) : steps (k + 1) r = step (steps k r) := rfl
def take (r : UInt32) (c : UInt8) : UInt32 := steps 8 (mix r c)
theorem take_eq (r : UInt32) (c : UInt8) : steps 8 (mix r c) = take r c := rfl
def run (r : UInt32) (l : List UInt8) : UInt32 := l.foldl take r
theorem run_nil (r : UInt32) : run r [] = r := rfl
theorem run_cons (r : UInt32) (c : UInt8) (l : List UInt8) : run r (c :: l) = run (take r c) l := rfl
theorem run_append (r : UInt32) (a b : List UInt8) : run r (a ++ b) = run (run r a) b := List.foldl_append
theorem run_snoc (r : UInt32) (l : List UInt8) (c : UInt8) : run r (l ++ [c]) = take (run r l) c := by rw [run_append]; rfl
def more (s : UInt32) (l : List UInt8) : UInt32 := nt (run (nt s) l)
def sum (l : List UInt8) : UInt32 := more 0 l
theorem more_eq (s : UInt32) (l : List UInt8) : more s l = nt (run (nt s) l) := rfl
theorem sum_eq (l : List UInt8) : more 0 l = sum l := rfl
def zero (n : Nat) : List UInt8 := List.replicate n 0
theorem zero_succ (n : Nat) : zero (n + 1) = zero n ++ [0] := by rw [zero, zero, List.replicate_succ']
theorem length_zero (n : Nat) : (zero n).length = n := by simp [zero]
def join (a b : UInt32) (n : Nat) : UInt32 := xr (run a (zero n)) b
theorem join_eq (a b : UInt32) (n : Nat) : join a b n = xr (run a (zero n)) b := rfl

/-! Numbers as bytes, the greatest first. -/
def byteAt (n k : Nat) : UInt8 := UInt8.ofNat (n / 2 ^ (8 * k))
theorem byteAt_eq (n k : Nat) : byteAt n k = UInt8.ofNat (n / 2 ^ (8 * k)) := rfl
def be : Nat → Nat → List UInt8
  | 0, _ => []
  | k + 1, n => byteAt n k :: be k n
theorem be_zero (n : Nat) : be 0 n = [] := rfl
theorem be_succ (k n : Nat) : be (k + 1) n = byteAt n k :: be k n := rfl
theorem length_be (k n : Nat) : (be k n).length = k := by
  induction k with
  | zero => rfl
  | succ k ih => rw [be_succ, List.length_cons, ih]
theorem be_get (n : Nat) : ∀ (k i : Nat), i < k → (be k n)[i]? = some (byteAt n (k - 1 - i)) := by
  intro k
  induction k with
  | zero => intro i h; omega
  | succ k ih =>
    intro i h
    cases i with
    | zero => rw [be_succ, List.getElem?_cons_zero]; rfl
    | succ i => rw [be_succ, List.getElem?_cons_succ, ih i (by omega)]; congr 2; omega
theorem take_be (k n j : Nat) (h : j < k) : (be k n).take (j + 1) = (be k n).take j ++ [byteAt n (k - 1 - j)] := by
  have hl := length_be k n
  have e := be_get n k j h
  rw [List.take_succ_eq_append_getElem (by omega)]
  rw [List.getElem?_eq_getElem (by omega)] at e
  injection e with e
  rw [e]
def num (l : List UInt8) : Nat := l.foldl (fun n c => n * 256 + c.toNat) 0
theorem num_nil : num [] = 0 := rfl
theorem num_snoc (l : List UInt8) (c : UInt8) : num (l ++ [c]) = num l * 256 + c.toNat := by rw [num, List.foldl_append]; rfl
theorem numFrom_eq (l : List UInt8) : ∀ s : Nat, l.foldl (fun n c => n * 256 + c.toNat) s = s * 256 ^ l.length + num l := by
  induction l with
  | nil => intro s; simp [num]
  | cons c l ih =>
    intro s
    have e : num (c :: l) = l.foldl (fun n c => n * 256 + c.toNat) c.toNat := by simp [num]
    rw [List.foldl_cons, ih, e, ih, List.length_cons, Nat.pow_succ, Nat.add_mul, Nat.mul_assoc, Nat.mul_comm 256, Nat.add_assoc]
theorem num_cons (c : UInt8) (l : List UInt8) : num (c :: l) = c.toNat * 256 ^ l.length + num l := by
  have e : num (c :: l) = l.foldl (fun n c => n * 256 + c.toNat) c.toNat := by simp [num]
  rw [e, numFrom_eq]
theorem num_lt (l : List UInt8) : num l < 256 ^ l.length := by
  induction l with
  | nil => decide
  | cons c l ih =>
    have hc := c.toNat_lt
    have h1 : c.toNat * 256 ^ l.length ≤ 255 * 256 ^ l.length := Nat.mul_le_mul_right _ (by omega)
    rw [num_cons, List.length_cons, Nat.pow_succ]
    omega
theorem pow_256 (k : Nat) : 2 ^ (8 * k) = 256 ^ k := by rw [Nat.pow_mul]
theorem num_be (n : Nat) : ∀ k, num (be k n) = n % 256 ^ k := by
  intro k
  induction k with
  | zero => simp [be, num, Nat.mod_one]
  | succ k ih =>
    rw [be_succ, num_cons, length_be, ih, byteAt, pow_256, UInt8.toNat_ofNat', show 256 ^ (k + 1) = 256 ^ k * 256 from Nat.pow_succ 256 k, Nat.mod_mul, show 2 ^ 8 = 256 from rfl, Nat.mul_comm, Nat.add_comm]
theorem num_be_lt {n k : Nat} (h : n < 256 ^ k) : num (be k n) = n := by rw [num_be, Nat.mod_eq_of_lt h]
theorem num_inj : ∀ (a b : List UInt8), a.length = b.length → num a = num b → a = b := by
  intro a
  induction a with
  | nil => intro b hl _; exact (List.eq_nil_of_length_eq_zero hl.symm).symm
  | cons c a ih =>
    intro b hl h
    cases b with
    | nil => simp at hl
    | cons d b =>
      have hl' : a.length = b.length := by simpa using hl
      rw [num_cons, num_cons, hl'] at h
      have la := num_lt a
      have lb := num_lt b
      rw [hl'] at la
      have hp : 0 < 256 ^ b.length := Nat.pow_pos (by decide)
      have e1 : (c.toNat * 256 ^ b.length + num a) / 256 ^ b.length = c.toNat := by rw [Nat.mul_comm, Nat.mul_add_div hp, Nat.div_eq_of_lt la]; rfl
      have e2 : (d.toNat * 256 ^ b.length + num b) / 256 ^ b.length = d.toNat := by rw [Nat.mul_comm, Nat.mul_add_div hp, Nat.div_eq_of_lt lb]; rfl
      have e : c.toNat = d.toNat := by rw [← e1, ← e2, h]
      have e' : num a = num b := by rw [e] at h; omega
      rw [UInt8.toNat.inj e, ih b hl' e']
theorem be_num {l : List UInt8} {k : Nat} (h : l.length = k) : be k (num l) = l :=
  num_inj _ _ (by rw [length_be, h]) (num_be_lt (by rw [← h]; exact num_lt l))

/-! Lists of texts. -/
def texts (l : List (List UInt8)) : List UInt8 := l.flatMap fun t => be 4 t.length ++ t
theorem texts_nil : texts [] = [] := rfl
theorem texts_cons (t : List UInt8) (l : List (List UInt8)) : texts (t :: l) = be 4 t.length ++ (t ++ texts l) := by simp [texts]
theorem texts_snoc (l : List (List UInt8)) (t : List UInt8) : texts (l ++ [t]) = texts l ++ (be 4 t.length ++ t) := by simp [texts]
def list (l : List (List UInt8)) : List UInt8 := be 4 l.length ++ texts l
theorem list_eq (l : List (List UInt8)) : list l = be 4 l.length ++ texts l := rfl
def sizeFrom (n : Nat) (l : List (List UInt8)) : Nat := l.foldl (fun n t => n + (4 + t.length)) n
theorem sizeFrom_eq (l : List (List UInt8)) : ∀ n, sizeFrom n l = n + (texts l).length := by
  induction l with
  | nil => intro n; simp [sizeFrom, texts]
  | cons t l ih =>
    intro n
    have e : sizeFrom n (t :: l) = sizeFrom (n + (4 + t.length)) l := rfl
    rw [e, ih, texts_cons, List.length_append, List.length_append, length_be]; omega
theorem length_list (l : List (List UInt8)) : (list l).length = 4 + (texts l).length := by rw [list, List.length_append, length_be]
/-- The number that stands at a place, if it may be. -/
def cntIn (r : List UInt8) : Option Nat := if r.length < 4 then none else if num (r.take 4) ≤ r.length - 4 then some (num (r.take 4)) else none
/-- The texts of a list, and the place behind them; or the place of what is wrong. -/
def parts (s : List UInt8) : Nat → Nat → List (List UInt8) → Nat ⊕ (List (List UInt8) × Nat)
  | 0, at_, acc => .inr (acc, at_)
  | k + 1, at_, acc => match cntIn (s.drop at_) with
    | none => .inl at_
    | some n => parts s k (at_ + 4 + n) (acc ++ [(s.drop (at_ + 4)).take n])
theorem parts_zero (s : List UInt8) (at_ : Nat) (acc : List (List UInt8)) : parts s 0 at_ acc = .inr (acc, at_) := rfl
theorem parts_bad {s : List UInt8} {k at_ : Nat} {acc : List (List UInt8)} (h : cntIn (s.drop at_) = none) : parts s (k + 1) at_ acc = .inl at_ := by rw [parts, h]
theorem parts_ok {s : List UInt8} {k at_ n : Nat} {acc : List (List UInt8)} (h : cntIn (s.drop at_) = some n) : parts s (k + 1) at_ acc = parts s k (at_ + 4 + n) (acc ++ [(s.drop (at_ + 4)).take n]) := by rw [parts, h]
/-- What Split tells: the place of what is wrong, or the texts. -/
def split (s : List UInt8) : Nat ⊕ List (List UInt8) :=
  match cntIn s with
  | none => .inl 0
  | some many => match parts s many 4 [] with
    | .inl p => .inl p
    | .inr (l, p) => if p < s.length then .inl p else if 60000 < s.length then .inl 0 else .inr l
theorem cntIn_some {r : List UInt8} {n : Nat} (h : cntIn r = some n) : 4 + n ≤ r.length ∧ n = num (r.take 4) := by
  unfold cntIn at h
  split at h
  · cases h
  · split at h
    · injection h with h; omega
    · cases h
theorem cntIn_le {r : List UInt8} {n : Nat} (h : cntIn r = some n) : 4 + n ≤ r.length := (cntIn_some h).1
theorem cntIn_be {n : Nat} {r : List UInt8} (hn : n < 256 ^ 4) (hr : n ≤ r.length) : cntIn (be 4 n ++ r) = some n := by
  have hl : (be 4 n ++ r).length = 4 + r.length := by rw [List.length_append, length_be]
  have ht : (be 4 n ++ r).take 4 = be 4 n := List.take_left' (length_be 4 n)
  unfold cntIn
  rw [ht, num_be_lt hn, hl, if_neg (by omega), if_pos (by omega)]
/-- What was listed is taken apart again. -/
theorem parts_texts (l : List (List UInt8)) : ∀ (h rest : List UInt8) (acc : List (List UInt8)), (∀ t ∈ l, t.length < 256 ^ 4) → parts (h ++ (texts l ++ rest)) l.length h.length acc = .inr (acc ++ l, h.length + (texts l).length) := by
  induction l with
  | nil => intro h rest acc _; rw [List.length_nil, parts_zero]; simp [texts]
  | cons t l ih =>
    intro h rest acc hw
    have ht := hw t (List.mem_cons_self ..)
    have e1 : (h ++ (texts (t :: l) ++ rest)).drop h.length = be 4 t.length ++ (t ++ (texts l ++ rest)) := by
      rw [List.drop_left, texts_cons]; simp
    have hc : cntIn ((h ++ (texts (t :: l) ++ rest)).drop h.length) = some t.length := by
      rw [e1]; exact cntIn_be ht (by rw [List.length_append]; omega)
    rw [List.length_cons, parts_ok hc]
    have e2 : (h ++ (texts (t :: l) ++ rest)).drop (h.length + 4) = t ++ (texts l ++ rest) := by
      rw [← List.drop_drop, e1]; exact List.drop_left' (length_be 4 _)
    have e3 : h ++ (texts (t :: l) ++ rest) = (h ++ (be 4 t.length ++ t)) ++ (texts l ++ rest) := by rw [texts_cons]; simp
    have e4 : (h ++ (be 4 t.length ++ t)).length = h.length + 4 + t.length := by simp [length_be]; omega
    rw [e2, List.take_left' rfl, e3, ← e4, ih _ rest _ (fun u hu => hw u (List.mem_cons_of_mem _ hu)), texts_cons, List.append_assoc, List.singleton_append]
    congr 2
    rw [e4]; simp [length_be]; omega
theorem mem_texts {l : List (List UInt8)} {t : List UInt8} (h : t ∈ l) : t.length + 4 ≤ (texts l).length := by
  induction l with
  | nil => cases h
  | cons u l ih =>
    rw [texts_cons, List.length_append, List.length_append, length_be]
    rcases List.mem_cons.1 h with rfl | h
    · omega
    · have := ih h; omega
theorem many_texts (l : List (List UInt8)) : 4 * l.length ≤ (texts l).length := by
  induction l with
  | nil => simp
  | cons u l ih => rw [texts_cons, List.length_append, List.length_append, length_be, List.length_cons]; omega
theorem split_list (l : List (List UInt8)) (h : (list l).length ≤ 60000) : split (list l) = .inr l := by
  have hl := length_list l
  have hm := many_texts l
  have hc : cntIn (list l) = some l.length := by rw [list]; exact cntIn_be (by omega) (by omega)
  have hp := parts_texts l (be 4 l.length) [] [] (fun t ht => by have := mem_texts ht; omega)
  rw [length_be, List.append_nil, ← list_eq, List.nil_append] at hp
  unfold split
  rw [hc]
  simp only [hp]
  rw [if_neg (by omega), if_neg (by omega)]
/-- What was taken apart is the list of what came. -/
theorem parts_back (s : List UInt8) : ∀ (k at_ : Nat) (acc l : List (List UInt8)) (p : Nat), at_ ≤ s.length → parts s k at_ acc = .inr (l, p) → ∃ m, l = acc ++ m ∧ m.length = k ∧ p ≤ s.length ∧ at_ ≤ p ∧ (s.drop at_).take (p - at_) = texts m := by
  intro k
  induction k with
  | zero =>
    intro at_ acc l p ha h
    rw [parts_zero] at h
    injection h with h
    injection h with h1 h2
    subst h1 h2
    exact ⟨[], by simp, rfl, ha, Nat.le_refl _, by simp [texts]⟩
  | succ k ih =>
    intro at_ acc l p ha h
    cases hc : cntIn (s.drop at_) with
    | none => rw [parts_bad hc] at h; cases h
    | some n =>
      rw [parts_ok hc] at h
      obtain ⟨hle, hn⟩ := cntIn_some hc
      rw [List.length_drop] at hle
      obtain ⟨m, rfl, hm, hp, hap, ht⟩ := ih _ _ _ _ (by omega) h
      have h4 : ((s.drop at_).take 4).length = 4 := by rw [List.length_take, List.length_drop]; omega
      have hnl : ((s.drop (at_ + 4)).take n).length = n := by rw [List.length_take, List.length_drop]; omega
      refine ⟨(s.drop (at_ + 4)).take n :: m, by simp, by simp [hm], hp, by omega, ?_⟩
      rw [texts_cons, hnl, ← ht]
      have hb : be 4 n = (s.drop at_).take 4 := by rw [hn, be_num h4]
      rw [hb]
      have e : p - at_ = 4 + (n + (p - (at_ + 4 + n))) := by omega
      rw [e, List.take_add, List.drop_drop, List.take_add, List.drop_drop]
theorem split_back {s : List UInt8} {l : List (List UInt8)} (h : split s = .inr l) : list l = s ∧ s.length ≤ 60000 := by
  unfold split at h
  cases hc : cntIn s with
  | none => rw [hc] at h; cases h
  | some many =>
    rw [hc] at h
    simp only at h
    obtain ⟨hle, hn⟩ := cntIn_some hc
    cases hp : parts s many 4 [] with
    | inl p => rw [hp] at h; cases h
    | inr x =>
      obtain ⟨l', p⟩ := x
      rw [hp] at h
      simp only at h
      split at h
      · cases h
      · split at h
        · cases h
        · injection h with h
          subst h
          obtain ⟨m, e, hm, hps, h4p, ht⟩ := parts_back s many 4 [] l' p (by omega) hp
          rw [List.nil_append] at e
          subst e
          have hps' : p = s.length := by omega
          have h4 : (s.take 4).length = 4 := by rw [List.length_take]; omega
          refine ⟨?_, by omega⟩
          have ht2 : s.drop 4 = texts l' := by rw [← ht, List.take_of_length_le (by rw [List.length_drop]; omega)]
          rw [list, hm, hn, be_num h4, ← ht2, List.take_append_drop]

/-! Records. -/
def headOf (epoch number size : Nat) : List UInt8 := be 4 size ++ be 4 number ++ be 8 epoch
theorem headOf_eq (epoch number size : Nat) : be 4 size ++ be 4 number ++ be 8 epoch = headOf epoch number size := rfl
theorem length_headOf (epoch number size : Nat) : (headOf epoch number size).length = 16 := by simp [headOf, length_be]
def sumOf (h p : List UInt8) : List UInt8 := be 4 (more (sum h) p).toNat
theorem length_sumOf (h p : List UInt8) : (sumOf h p).length = 4 := length_be _ _
def whole (n : Nat) : Nat := (n + 87) / 64 * 64
theorem whole_ge (n : Nat) : 24 + n ≤ whole n := by unfold whole; omega
theorem whole_mod (n : Nat) : whole n % 64 = 0 := by unfold whole; omega
theorem whole_le (n : Nat) : whole n ≤ n + 87 := by unfold whole; omega
def front (h p : List UInt8) : List UInt8 := [1, 0, 0, 0] ++ h ++ sumOf h p ++ p
def record (epoch number : Nat) (p : List UInt8) : List UInt8 :=
  [1, 0, 0, 0] ++ headOf epoch number p.length ++ sumOf (headOf epoch number p.length) p ++ p ++ zero (whole p.length - 24 - p.length)
theorem length_record (epoch number : Nat) (p : List UInt8) : (record epoch number p).length = whole p.length := by
  have := whole_ge p.length
  simp only [record, List.length_append, length_headOf, length_sumOf, length_zero, List.length_cons, List.length_nil]; omega
theorem sum_append (a b : List UInt8) : more (sum a) b = sum (a ++ b) := by
  rw [sum, sum, more_eq, more_eq, more_eq, run_append]
  congr 2
  simp [nt]
attribute [irreducible] low half tap mix nt xr take run more sum zero join byteAt be num texts list
end Fr
