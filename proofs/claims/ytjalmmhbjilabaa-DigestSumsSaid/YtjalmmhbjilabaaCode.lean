/- The plain mathematics of sixteenths and base 64, as functions on lists of bytes. No program is imported here. -/
namespace Dig

theorem all_bytes {p : Nat → Prop} (h : ∀ n, n < 256 → p n) (c : UInt8) : p c.toNat := h _ c.toNat_lt

/-! Sixteenths. -/
def digits16 : List UInt8 := [48, 49, 50, 51, 52, 53, 54, 55, 56, 57, 97, 98, 99, 100, 101, 102]
def dig16 (n : Nat) : UInt8 := digits16.getD n 0
def hex2 (c : UInt8) : List UInt8 := [dig16 (c.toNat / 16), dig16 (c.toNat % 16)]
def hex : List UInt8 → List UInt8
  | [] => []
  | c :: r => hex2 c ++ hex r
theorem hex_nil : hex [] = [] := rfl
theorem hex_cons (c : UInt8) (r : List UInt8) : hex (c :: r) = hex2 c ++ hex r := rfl
theorem hex_append (a b : List UInt8) : hex (a ++ b) = hex a ++ hex b := by
  induction a with
  | nil => rfl
  | cons c r ih => rw [List.cons_append, hex_cons, hex_cons, ih, List.append_assoc]
theorem hex_snoc (a : List UInt8) (c : UInt8) : hex (a ++ [c]) = hex a ++ hex2 c := by rw [hex_append, hex_cons, hex_nil, List.append_nil]
theorem length_hex (a : List UInt8) : (hex a).length = 2 * a.length := by
  induction a with
  | nil => rfl
  | cons c r ih => rw [hex_cons, List.length_append, ih, List.length_cons, hex2]; simp only [List.length_cons, List.length_nil]; omega
/-- The half of a byte that a sixteenth tells; 16: it is none. -/
def halfN (n : Nat) : Nat := if 48 ≤ n ∧ n ≤ 57 then n - 48 else if 97 ≤ n ∧ n ≤ 102 then n - 87 else 16
def half (c : UInt8) : Nat := halfN c.toNat
theorem half_lt (c : UInt8) : half c ≤ 16 := by unfold half halfN; split; omega; split; omega; omega
def notHalf (c : UInt8) : Bool := half c == 16
/-- Where a text is none in sixteenths. -/
def bad16 (l : List UInt8) : Nat := l.findIdx notHalf
def pair16 (a b : UInt8) : UInt8 := UInt8.ofNat (16 * half a + half b)
def pairs : List UInt8 → List UInt8
  | a :: b :: r => pair16 a b :: pairs r
  | _ => []
theorem pairs_cons (a b : UInt8) (r : List UInt8) : pairs (a :: b :: r) = pair16 a b :: pairs r := rfl
def unhex (l : List UInt8) : Except Nat (List UInt8) := if bad16 l < l.length ∨ l.length % 2 ≠ 0 then .error (bad16 l) else .ok (pairs l)
theorem unhex_bad {l : List UInt8} (h : bad16 l < l.length ∨ l.length % 2 ≠ 0) : unhex l = .error (bad16 l) := if_pos h
theorem unhex_good {l : List UInt8} (h1 : bad16 l = l.length) (h2 : l.length % 2 = 0) : unhex l = .ok (pairs l) := if_neg (by omega)
theorem bad16_le (l : List UInt8) : bad16 l ≤ l.length := List.findIdx_le_length
theorem bad16_of {l : List UInt8} {i : Nat} (hi : i < l.length) (h1 : ∀ j, j < i → half (l.getD j 0) < 16) (h2 : half (l.getD i 0) = 16) : bad16 l = i := by
  have e : ∀ j, j < l.length → l.getD j 0 = l[j]! := by intro j hj; simp [List.getD, hj]
  unfold bad16
  rw [List.findIdx_eq hi]
  constructor
  · rw [notHalf, ← show l.getD i 0 = l[i] from by simp [List.getD, hi], h2]; rfl
  · intro j hj
    have := h1 j hj
    rw [show l.getD j 0 = l[j] from by simp [List.getD, show j < l.length by omega]] at this
    rw [notHalf, beq_eq_false_iff_ne]; omega
theorem bad16_none {l : List UInt8} (h1 : ∀ j, j < l.length → half (l.getD j 0) < 16) : bad16 l = l.length := by
  refine List.findIdx_eq_length.2 fun x hx => ?_
  obtain ⟨j, hj, rfl⟩ := List.mem_iff_getElem.1 hx
  have := h1 j hj
  rw [show l.getD j 0 = l[j] from by simp [List.getD, hj]] at this
  rw [notHalf, beq_eq_false_iff_ne]; omega
/-- The text in sixteenths as it is read, byte by byte. -/
def put16 (x : UInt8) (h : Nat) : UInt8 := UInt8.ofNat (16 * x.toNat + h)
def unhexTo (l : List UInt8) : Nat → List UInt8
  | 0 => List.replicate (l.length / 2) 0
  | k + 1 => if k / 2 < l.length / 2 then (unhexTo l k).set (k / 2) (put16 ((unhexTo l k).getD (k / 2) 0) (half (l.getD k 0))) else unhexTo l k
theorem unhexTo_zero (l : List UInt8) : unhexTo l 0 = List.replicate (l.length / 2) 0 := rfl
theorem unhexTo_set {l : List UInt8} {k : Nat} (h : k / 2 < l.length / 2) : unhexTo l (k + 1) = (unhexTo l k).set (k / 2) (put16 ((unhexTo l k).getD (k / 2) 0) (half (l.getD k 0))) := if_pos h
theorem unhexTo_same {l : List UInt8} {k : Nat} (h : ¬ k / 2 < l.length / 2) : unhexTo l (k + 1) = unhexTo l k := if_neg h
theorem length_unhexTo (l : List UInt8) (k : Nat) : (unhexTo l k).length = l.length / 2 := by
  induction k with
  | zero => simp [unhexTo]
  | succ k ih =>
    by_cases h : k / 2 < l.length / 2
    · rw [unhexTo_set h, List.length_set, ih]
    · rw [unhexTo_same h, ih]
theorem pairs_append : ∀ (n : Nat) (a b : List UInt8), a.length = 2 * n → pairs (a ++ b) = pairs a ++ pairs b := by
  intro n
  induction n with
  | zero => intro a b h; obtain rfl : a = [] := List.eq_nil_of_length_eq_zero (by omega); rfl
  | succ n ih =>
    intro a b h
    match a, h with
    | x :: y :: r, h =>
      simp only [List.cons_append, pairs_cons, ih r b (by simp only [List.length_cons] at h; omega)]
theorem length_pairs : ∀ (n : Nat) (a : List UInt8), a.length / 2 = n → (pairs a).length = n := by
  intro n
  induction n with
  | zero =>
    intro a h
    match a, h with
    | [], _ => rfl
    | [_], _ => rfl
    | _ :: _ :: r, h => simp only [List.length_cons] at h; omega
  | succ n ih =>
    intro a h
    match a, h with
    | [_], h => simp only [List.length_cons, List.length_nil] at h; omega
    | x :: y :: r, h => rw [pairs_cons, List.length_cons, ih r (by simp only [List.length_cons] at h; omega)]
theorem set_mid {A B : List UInt8} {x v : UInt8} {n : Nat} (h : A.length = n) : (A ++ x :: B).set n v = A ++ v :: B := by
  subst h; simp
theorem getD_mid {A B : List UInt8} {x : UInt8} {n : Nat} (h : A.length = n) : (A ++ x :: B).getD n 0 = x := by
  subst h; simp [List.getD]
theorem put16_twice (h k : Nat) : put16 (put16 0 h) k = UInt8.ofNat (16 * h + k) := by
  apply UInt8.toNat.inj
  simp only [put16, UInt8.toNat_ofNat', show (0 : UInt8).toNat = 0 from rfl]; omega
theorem unhexTo_even (l : List UInt8) : ∀ m, m ≤ l.length / 2 → unhexTo l (2 * m) = pairs (l.take (2 * m)) ++ List.replicate (l.length / 2 - m) 0 := by
  intro m
  induction m with
  | zero => intro _; simp [unhexTo, pairs]
  | succ m ih =>
    intro hm
    have e := ih (by omega)
    have e1 : (2 * m) / 2 = m := by omega
    have e2 : (2 * m + 1) / 2 = m := by omega
    have hp : (pairs (l.take (2 * m))).length = m := length_pairs _ _ (by rw [List.length_take]; omega)
    have hr : List.replicate (l.length / 2 - m) (0 : UInt8) = 0 :: List.replicate (l.length / 2 - (m + 1)) 0 := by
      rw [show l.length / 2 - m = (l.length / 2 - (m + 1)) + 1 from by omega, List.replicate_succ]
    have ht : l.take (2 * (m + 1)) = l.take (2 * m) ++ [l.getD (2 * m) 0, l.getD (2 * m + 1) 0] := by
      rw [show 2 * (m + 1) = 2 * m + 1 + 1 from by omega, List.take_succ_eq_append_getElem (by omega), List.take_succ_eq_append_getElem (by omega), List.append_assoc]
      simp [List.getD, show 2 * m < l.length by omega, show 2 * m + 1 < l.length by omega]
    rw [show 2 * (m + 1) = (2 * m + 1) + 1 from by omega, unhexTo_set (by omega), unhexTo_set (by omega), e, hr, e1, e2, set_mid hp, set_mid hp, getD_mid hp, getD_mid hp, show (2 * m + 1) + 1 = 2 * (m + 1) from by omega, ht, pairs_append m _ _ (by rw [List.length_take]; omega)]
    rw [put16_twice _ _]
    simp [pairs, pair16]
theorem unhexTo_all {l : List UInt8} (h2 : l.length % 2 = 0) : unhexTo l l.length = pairs l := by
  have := unhexTo_even l (l.length / 2) (Nat.le_refl _)
  rw [show 2 * (l.length / 2) = l.length from by omega, List.take_length] at this
  simpa using this

/-! There and back. -/
theorem half_dig : ∀ n, n < 16 → half (dig16 n) = n := by decide
theorem dig_half : ∀ n, n < 256 → halfN n < 16 → (dig16 (halfN n)).toNat = n := by decide +kernel
theorem dig16_half (c : UInt8) (h : half c < 16) : dig16 (half c) = c := UInt8.toNat.inj (dig_half _ c.toNat_lt h)
theorem good_hex (l : List UInt8) : ∀ c ∈ hex l, half c < 16 := by
  induction l with
  | nil => intro c h; cases h
  | cons x r ih =>
    intro c h
    have := x.toNat_lt
    rw [hex_cons, hex2] at h
    rcases List.mem_append.1 h with h | h
    · simp only [List.mem_cons, List.not_mem_nil, or_false] at h
      rcases h with rfl | rfl
      · rw [half_dig _ (by omega)]; omega
      · rw [half_dig _ (by omega)]; omega
    · exact ih c h
theorem bad16_good {l : List UInt8} (h : ∀ c ∈ l, half c < 16) : bad16 l = l.length :=
  List.findIdx_eq_length.2 fun x hx => by have := h x hx; rw [notHalf, beq_eq_false_iff_ne]; omega
theorem pairs_hex (l : List UInt8) : pairs (hex l) = l := by
  induction l with
  | nil => rfl
  | cons x r ih =>
    have := x.toNat_lt
    rw [hex_cons, hex2]
    show pairs (dig16 _ :: dig16 _ :: hex r) = _
    rw [pairs_cons, ih, pair16, half_dig _ (by omega), half_dig _ (by omega)]
    congr 1
    apply UInt8.toNat.inj
    rw [UInt8.toNat_ofNat']; omega
theorem unhex_hex (l : List UInt8) : unhex (hex l) = .ok l := by
  rw [unhex_good (bad16_good (good_hex l)) (by rw [length_hex]; omega), pairs_hex]
theorem hex_pairs : ∀ (n : Nat) (l : List UInt8), l.length = 2 * n → (∀ c ∈ l, half c < 16) → hex (pairs l) = l := by
  intro n
  induction n with
  | zero => intro l h _; obtain rfl : l = [] := List.eq_nil_of_length_eq_zero (by omega); rfl
  | succ n ih =>
    intro l h hg
    match l, h, hg with
    | a :: b :: r, h, hg =>
      have ha := hg a (by simp)
      have hb := hg b (by simp)
      rw [pairs_cons, hex_cons, ih r (by simp only [List.length_cons] at h; omega) (fun c hc => hg c (by simp [hc])), hex2, pair16, UInt8.toNat_ofNat']
      rw [show (16 * half a + half b) % 2 ^ 8 / 16 = half a from by omega, show (16 * half a + half b) % 2 ^ 8 % 16 = half b from by omega, dig16_half a ha, dig16_half b hb]
      rfl
theorem hex_unhex {l r : List UInt8} (h : unhex l = .ok r) : hex r = l := by
  unfold unhex at h
  split at h
  · cases h
  · rename_i hn
    obtain rfl : pairs l = r := by injection h
    refine hex_pairs (l.length / 2) l (by omega) fun c hc => ?_
    have hb : bad16 l = l.length := by have := bad16_le l; omega
    have := List.findIdx_eq_length.1 hb c hc
    rw [notHalf, beq_eq_false_iff_ne] at this
    have := half_lt c; omega

/-! Base 64. -/
def digits64 : List UInt8 := [65, 66, 67, 68, 69, 70, 71, 72, 73, 74, 75, 76, 77, 78, 79, 80, 81, 82, 83, 84, 85, 86, 87, 88, 89, 90, 97, 98, 99, 100, 101, 102, 103, 104, 105, 106, 107, 108, 109, 110, 111, 112, 113, 114, 115, 116, 117, 118, 119, 120, 121, 122, 48, 49, 50, 51, 52, 53, 54, 55, 56, 57, 43, 47]
def dig64 (n : Nat) : UInt8 := digits64.getD n 0
/-- Three bytes as one number. -/
def all24 (l : List UInt8) : Nat := (l.getD 0 0).toNat * 65536 + (l.getD 1 0).toNat * 256 + (l.getD 2 0).toNat
/-- The first k bytes of a four that tells 1 to 3 bytes. -/
def four64 (l : List UInt8) (i : Nat) : UInt8 := if l.length < i then 61 else dig64 (all24 l / 2 ^ (18 - 6 * i) % 64)
def enc4 (l : List UInt8) : List UInt8 := [four64 l 0, four64 l 1, four64 l 2, four64 l 3]
def enc : List UInt8 → List UInt8
  | [] => []
  | [a] => enc4 [a]
  | [a, b] => enc4 [a, b]
  | a :: b :: c :: r => enc4 [a, b, c] ++ enc r
theorem enc_nil : enc [] = [] := rfl
theorem enc_step {l : List UInt8} (h : l ≠ []) : enc l = enc4 (l.take 3) ++ enc (l.drop 3) := by
  match l, h with
  | [a], _ => rfl
  | [a, b], _ => rfl
  | a :: b :: c :: r, _ => rfl
/-- The value of one of the 64 bytes; 64: it is none. -/
def valueN (n : Nat) : Nat := if 65 ≤ n ∧ n ≤ 90 then n - 65 else if 97 ≤ n ∧ n ≤ 122 then n - 71 else if 48 ≤ n ∧ n ≤ 57 then n + 4 else if n = 43 then 62 else if n = 47 then 63 else 64
def value (c : UInt8) : Nat := valueN c.toNat
def value0 (c : UInt8) : Nat := if value c < 64 then value c else 0
/-- May the byte at place i of a four be what it is? -/
def okAt (four : List UInt8) (last : Bool) (i : Nat) : Bool :=
  if i = 3 ∧ four.getD 2 0 = 61 then four.getD i 0 == 61
  else if 2 ≤ i ∧ four.getD i 0 = 61 then last
  else value (four.getD i 0) < 64
def looseAt (four : List UInt8) : Nat × Nat :=
  if four.getD 2 0 = 61 then (1, 16) else if four.getD 3 0 = 61 then (2, 4) else (0, 1)
/-- What of a four makes it none. -/
def firstWrong (four : List UInt8) (last : Bool) : Nat := (List.range four.length).findIdx fun i => !okAt four last i
def wrong4 (four : List UInt8) (last : Bool) : Option Nat :=
  if firstWrong four last < four.length then some (firstWrong four last)
  else if four.length < 4 then some four.length
  else if value0 (four.getD (looseAt four).1 0) % (looseAt four).2 ≠ 0 then some (looseAt four).1
  else none
def many4 (four : List UInt8) : Nat := (four.map fun c => if value c < 64 then 1 else 0).sum
def all4 (four : List UInt8) : Nat := ((value0 (four.getD 0 0) * 64 + value0 (four.getD 1 0)) * 64 + value0 (four.getD 2 0)) * 64 + value0 (four.getD 3 0)
def three4 (four : List UInt8) : List UInt8 := ([UInt8.ofNat (all4 four / 65536), UInt8.ofNat (all4 four / 256), UInt8.ofNat (all4 four)] : List UInt8).take (many4 four - 1)
def after (off : Nat) (pre : List UInt8) : Except Nat (List UInt8) → Except Nat (List UInt8)
  | .error j => .error (off + j)
  | .ok t => .ok (pre ++ t)
theorem after_error (a i : Nat) (t : List UInt8) : after a t (.error i) = .error (a + i) := rfl
theorem after_fine (a : Nat) (t u : List UInt8) : after a t (.ok u) = .ok (t ++ u) := rfl
theorem after_zero (r : Except Nat (List UInt8)) : after 0 [] r = r := by cases r <;> simp [after]
theorem after_after (a b : Nat) (p q : List UInt8) (r : Except Nat (List UInt8)) : after a p (after b q r) = after (a + b) (p ++ q) r := by
  cases r
  · simp [after, Nat.add_assoc]
  · simp [after, List.append_assoc]
def decStep (four : List UInt8) (last : Bool) (r : Except Nat (List UInt8)) : Except Nat (List UInt8) :=
  match wrong4 four last with
  | some i => .error i
  | none => after 4 (three4 four) r
theorem decStep_bad {four : List UInt8} {last : Bool} {i : Nat} (h : wrong4 four last = some i) (r : Except Nat (List UInt8)) : decStep four last r = .error i := by rw [decStep, h]
theorem decStep_good {four : List UInt8} {last : Bool} (h : wrong4 four last = none) (r : Except Nat (List UInt8)) : decStep four last r = after 4 (three4 four) r := by rw [decStep, h]
/-- A text in base 64 as it is read; else the place. -/
def dec : List UInt8 → Except Nat (List UInt8)
  | [] => .ok []
  | [a] => decStep [a] true (.ok [])
  | [a, b] => decStep [a, b] true (.ok [])
  | [a, b, c] => decStep [a, b, c] true (.ok [])
  | a :: b :: c :: d :: r => decStep [a, b, c, d] (r.length == 0) (dec r)
theorem dec_nil : dec [] = .ok [] := rfl
theorem dec_step {l : List UInt8} (h : l ≠ []) : dec l = decStep (l.take 4) (decide (l.length ≤ 4)) (dec (l.drop 4)) := by
  match l, h with
  | [a], _ => rfl
  | [a, b], _ => rfl
  | [a, b, c], _ => rfl
  | a :: b :: c :: d :: r, _ =>
    show decStep [a, b, c, d] (r.length == 0) (dec r) = decStep [a, b, c, d] (decide (r.length + 4 ≤ 4)) (dec r)
    congr 1
    cases hr : r.length == 0 <;> simp_all

theorem value_dig : ∀ n, n < 64 → value (dig64 n) = n := by decide
theorem dig_ne : ∀ n, n < 64 → dig64 n ≠ 61 := by decide
theorem dig_value' : ∀ n, n < 256 → valueN n < 64 → (dig64 (valueN n)).toNat = n := by decide +kernel
theorem dig_value (c : UInt8) (h : value c < 64) : dig64 (value c) = c := UInt8.toNat.inj (dig_value' _ c.toNat_lt h)
theorem value_61 : value 61 = 64 := by decide
theorem value0_dig (n : Nat) (h : n < 64) : value0 (dig64 n) = n := by rw [value0, value_dig n h, if_pos h]
theorem value0_61 : value0 61 = 0 := by decide
theorem range4 : List.range 4 = [0, 1, 2, 3] := rfl
theorem firstWrong_good {four : List UInt8} {last : Bool} (h : ∀ i, i < four.length → okAt four last i = true) : firstWrong four last = four.length := by
  have := (List.findIdx_eq_length (xs := List.range four.length) (p := fun i => !okAt four last i)).2 fun x hx => by simp [h x (List.mem_range.1 hx)]
  rw [List.length_range] at this; exact this
theorem firstWrong_le (four : List UInt8) (last : Bool) : firstWrong four last ≤ four.length := by
  have := List.findIdx_le_length (xs := List.range four.length) (p := fun i => !okAt four last i)
  rw [List.length_range] at this; exact this
theorem firstWrong_of {four : List UInt8} {last : Bool} {i : Nat} (hi : i < four.length) (h1 : ∀ j, j < i → okAt four last j = true) (h2 : okAt four last i = false) : firstWrong four last = i := by
  unfold firstWrong
  rw [List.findIdx_eq (by simpa using hi)]
  constructor
  · simp [h2]
  · intro j hj; simp [h1 j hj]
theorem ok_of_firstWrong {four : List UInt8} {last : Bool} (h : ¬ firstWrong four last < four.length) (i : Nat) (hi : i < four.length) : okAt four last i = true := by
  have e : firstWrong four last = four.length := by have := firstWrong_le four last; omega
  have := (List.findIdx_eq_length (xs := List.range four.length) (p := fun i => !okAt four last i)).1 (by rw [List.length_range]; exact e) i (List.mem_range.2 hi)
  simpa using this
theorem wrong4_bad {four : List UInt8} {last : Bool} (h : firstWrong four last < four.length) : wrong4 four last = some (firstWrong four last) := if_pos h
theorem wrong4_short {four : List UInt8} {last : Bool} (h : ∀ i, i < four.length → okAt four last i = true) (h4 : four.length < 4) : wrong4 four last = some four.length := by
  rw [wrong4, firstWrong_good h, if_neg (by omega), if_pos h4]
theorem wrong4_loose {four : List UInt8} {last : Bool} (h : ∀ i, i < four.length → okAt four last i = true) (h4 : four.length = 4) (hl : value0 (four.getD (looseAt four).1 0) % (looseAt four).2 ≠ 0) : wrong4 four last = some (looseAt four).1 := by
  rw [wrong4, firstWrong_good h, if_neg (by omega), if_neg (by omega), if_pos hl]
theorem wrong4_none {four : List UInt8} {last : Bool} (h : ∀ i, i < four.length → okAt four last i = true) (h4 : four.length = 4) (hl : value0 (four.getD (looseAt four).1 0) % (looseAt four).2 = 0) : wrong4 four last = none := by
  rw [wrong4, firstWrong_good h, if_neg (by omega), if_neg (by omega), if_neg (by omega)]
theorem of_wrong4 {four : List UInt8} {last : Bool} (h : wrong4 four last = none) : (∀ i, i < four.length → okAt four last i = true) ∧ 4 ≤ four.length ∧ value0 (four.getD (looseAt four).1 0) % (looseAt four).2 = 0 := by
  unfold wrong4 at h
  split at h
  · cases h
  · rename_i h1
    split at h
    · cases h
    · rename_i h2
      split at h
      · cases h
      · rename_i h3
        exact ⟨ok_of_firstWrong h1, by omega, by simpa using h3⟩
theorem byte_inj {a : Nat} {c : UInt8} (h : a % 256 = c.toNat) : UInt8.ofNat a = c := by
  apply UInt8.toNat.inj; rw [UInt8.toNat_ofNat']; exact h
theorem ok_four {a b c d : UInt8} {last : Bool} (h0 : okAt [a, b, c, d] last 0 = true) (h1 : okAt [a, b, c, d] last 1 = true) (h2 : okAt [a, b, c, d] last 2 = true) (h3 : okAt [a, b, c, d] last 3 = true) :
    ∀ i, i < [a, b, c, d].length → okAt [a, b, c, d] last i = true := by
  intro i hi
  match i, hi with
  | 0, _ => exact h0
  | 1, _ => exact h1
  | 2, _ => exact h2
  | 3, _ => exact h3
theorem value0_le (c : UInt8) : value0 c < 64 := by unfold value0; split; assumption; omega
theorem value0_eq {c : UInt8} (h : value c < 64) : value0 c = value c := if_pos h

theorem step_one (a : UInt8) : wrong4 (enc4 [a]) true = none ∧ three4 (enc4 [a]) = [a] := by
  have ha := a.toNat_lt
  have e : enc4 [a] = [dig64 (a.toNat / 4), dig64 (a.toNat % 4 * 16), 61, 61] := by
    simp only [enc4, four64, all24, List.length_cons, List.length_nil, List.getD_cons_zero, List.getD_cons_succ, List.getD_nil, show (0 : UInt8).toNat = 0 from rfl]
    rw [if_neg (by omega), if_neg (by omega), if_pos (by omega), if_pos (by omega), show (a.toNat * 65536 + 0 * 256 + 0) / 2 ^ (18 - 6 * 0) % 64 = a.toNat / 4 from by omega, show (a.toNat * 65536 + 0 * 256 + 0) / 2 ^ (18 - 6 * 1) % 64 = a.toNat % 4 * 16 from by omega]
  rw [e]
  have v0 := value_dig (a.toNat / 4) (by omega)
  have v1 := value_dig (a.toNat % 4 * 16) (by omega)
  have w0 := value0_dig (a.toNat / 4) (by omega)
  have w1 := value0_dig (a.toNat % 4 * 16) (by omega)
  constructor
  · refine wrong4_none (ok_four ?_ ?_ ?_ ?_) rfl ?_
    · simp [okAt, v0]; omega
    · simp [okAt, v1]; omega
    · simp [okAt]
    · simp [okAt]
    · simp [looseAt, w1]
  · simp only [three4, all4, many4, List.map_cons, List.map_nil, List.getD_cons_zero, List.getD_cons_succ, w0, w1, value0_61, v0, v1, value_61]
    rw [if_pos (by omega), if_pos (by omega), if_neg (by omega)]
    rw [byte_inj (c := a) (by omega)]
    rfl
theorem step_two (a b : UInt8) : wrong4 (enc4 [a, b]) true = none ∧ three4 (enc4 [a, b]) = [a, b] := by
  have ha := a.toNat_lt
  have hb := b.toNat_lt
  have e : enc4 [a, b] = [dig64 (a.toNat / 4), dig64 (a.toNat % 4 * 16 + b.toNat / 16), dig64 (b.toNat % 16 * 4), 61] := by
    simp only [enc4, four64, all24, List.length_cons, List.length_nil, List.getD_cons_zero, List.getD_cons_succ, List.getD_nil, show (0 : UInt8).toNat = 0 from rfl]
    rw [if_neg (by omega), if_neg (by omega), if_neg (by omega), if_pos (by omega), show (a.toNat * 65536 + b.toNat * 256 + 0) / 2 ^ (18 - 6 * 0) % 64 = a.toNat / 4 from by omega, show (a.toNat * 65536 + b.toNat * 256 + 0) / 2 ^ (18 - 6 * 1) % 64 = a.toNat % 4 * 16 + b.toNat / 16 from by omega,
      show (a.toNat * 65536 + b.toNat * 256 + 0) / 2 ^ (18 - 6 * 2) % 64 = b.toNat % 16 * 4 from by omega]
  rw [e]
  have v0 := value_dig (a.toNat / 4) (by omega)
  have v1 := value_dig (a.toNat % 4 * 16 + b.toNat / 16) (by omega)
  have v2 := value_dig (b.toNat % 16 * 4) (by omega)
  have w0 := value0_dig (a.toNat / 4) (by omega)
  have w1 := value0_dig (a.toNat % 4 * 16 + b.toNat / 16) (by omega)
  have w2 := value0_dig (b.toNat % 16 * 4) (by omega)
  have n2 := dig_ne (b.toNat % 16 * 4) (by omega)
  constructor
  · refine wrong4_none (ok_four ?_ ?_ ?_ ?_) rfl ?_
    · simp [okAt, v0]; omega
    · simp [okAt, v1]; omega
    · simp [okAt, v2, n2]; omega
    · simp [okAt, n2]
    · simp [looseAt, w2, n2]
  · simp only [three4, all4, many4, List.map_cons, List.map_nil, List.getD_cons_zero, List.getD_cons_succ, w0, w1, w2, value0_61, v0, v1, v2, value_61]
    rw [if_pos (by omega), if_pos (by omega), if_pos (by omega), if_neg (by omega)]
    rw [byte_inj (c := a) (by omega), byte_inj (c := b) (by omega)]
    rfl
theorem step_three (a b c : UInt8) (last : Bool) : wrong4 (enc4 [a, b, c]) last = none ∧ three4 (enc4 [a, b, c]) = [a, b, c] := by
  have ha := a.toNat_lt
  have hb := b.toNat_lt
  have hc := c.toNat_lt
  have e : enc4 [a, b, c] = [dig64 (a.toNat / 4), dig64 (a.toNat % 4 * 16 + b.toNat / 16), dig64 (b.toNat % 16 * 4 + c.toNat / 64), dig64 (c.toNat % 64)] := by
    simp only [enc4, four64, all24, List.length_cons, List.length_nil, List.getD_cons_zero, List.getD_cons_succ]
    rw [if_neg (by omega), if_neg (by omega), if_neg (by omega), if_neg (by omega), show (a.toNat * 65536 + b.toNat * 256 + c.toNat) / 2 ^ (18 - 6 * 0) % 64 = a.toNat / 4 from by omega, show (a.toNat * 65536 + b.toNat * 256 + c.toNat) / 2 ^ (18 - 6 * 1) % 64 = a.toNat % 4 * 16 + b.toNat / 16 from by omega,
      show (a.toNat * 65536 + b.toNat * 256 + c.toNat) / 2 ^ (18 - 6 * 2) % 64 = b.toNat % 16 * 4 + c.toNat / 64 from by omega, show (a.toNat * 65536 + b.toNat * 256 + c.toNat) / 2 ^ (18 - 6 * 3) % 64 = c.toNat % 64 from by omega]
  rw [e]
  have v0 := value_dig (a.toNat / 4) (by omega)
  have v1 := value_dig (a.toNat % 4 * 16 + b.toNat / 16) (by omega)
  have v2 := value_dig (b.toNat % 16 * 4 + c.toNat / 64) (by omega)
  have v3 := value_dig (c.toNat % 64) (by omega)
  have w0 := value0_dig (a.toNat / 4) (by omega)
  have w1 := value0_dig (a.toNat % 4 * 16 + b.toNat / 16) (by omega)
  have w2 := value0_dig (b.toNat % 16 * 4 + c.toNat / 64) (by omega)
  have w3 := value0_dig (c.toNat % 64) (by omega)
  have n2 := dig_ne (b.toNat % 16 * 4 + c.toNat / 64) (by omega)
  have n3 := dig_ne (c.toNat % 64) (by omega)
  constructor
  · refine wrong4_none (ok_four ?_ ?_ ?_ ?_) rfl ?_
    · simp [okAt, v0]; omega
    · simp [okAt, v1]; omega
    · simp [okAt, v2, n2]; omega
    · simp [okAt, v3, n2, n3]; omega
    · simp [looseAt, n2, n3, Nat.mod_one]
  · simp only [three4, all4, many4, List.map_cons, List.map_nil, List.getD_cons_zero, List.getD_cons_succ, w0, w1, w2, w3, v0, v1, v2, v3]
    rw [if_pos (by omega), if_pos (by omega), if_pos (by omega), if_pos (by omega)]
    rw [byte_inj (c := a) (by omega), byte_inj (c := b) (by omega), byte_inj (c := c) (by omega)]
    rfl
theorem length_enc4 (l : List UInt8) : (enc4 l).length = 4 := rfl
theorem enc_cons (a b c : UInt8) (r : List UInt8) : enc (a :: b :: c :: r) = enc4 [a, b, c] ++ enc r := rfl
theorem dec_enc (l : List UInt8) : dec (enc l) = .ok l := by
  match l with
  | [] => rfl
  | [a] =>
    show dec (enc4 [a]) = _
    rw [dec_step (by simp [enc4]), List.take_of_length_le (by rw [length_enc4]; omega), List.drop_of_length_le (by rw [length_enc4]; omega)]
    simp only [length_enc4, Nat.le_refl, decide_true]
    rw [decStep_good (step_one a).1, (step_one a).2]; rfl
  | [a, b] =>
    show dec (enc4 [a, b]) = _
    rw [dec_step (by simp [enc4]), List.take_of_length_le (by rw [length_enc4]; omega), List.drop_of_length_le (by rw [length_enc4]; omega)]
    simp only [length_enc4, Nat.le_refl, decide_true]
    rw [decStep_good (step_two a b).1, (step_two a b).2]; rfl
  | a :: b :: c :: r =>
    rw [enc_cons, dec_step (by simp [enc4])]
    have e1 : (enc4 [a, b, c] ++ enc r).take 4 = enc4 [a, b, c] := by rw [List.take_append_of_le_length (by rw [length_enc4]; omega), List.take_of_length_le (by rw [length_enc4]; omega)]
    have e2 : (enc4 [a, b, c] ++ enc r).drop 4 = enc r := List.drop_left (l₁ := enc4 [a, b, c])
    rw [e1, e2, decStep_good (step_three a b c _).1, (step_three a b c true).2, dec_enc r]; rfl
theorem dig_back {n : Nat} {c : UInt8} (hc : value c < 64) (h : n = value c) : dig64 n = c := by rw [h, dig_value c hc]
theorem enc_four {a b c d : UInt8} {last : Bool} (h : wrong4 [a, b, c, d] last = none) : enc4 (three4 [a, b, c, d]) = [a, b, c, d] ∧ (last = false → (three4 [a, b, c, d]).length = 3) ∧ 1 ≤ (three4 [a, b, c, d]).length ∧ (three4 [a, b, c, d]).length ≤ 3 := by
  obtain ⟨ho, _, hl⟩ := of_wrong4 h
  have h0 := ho 0 (by simp)
  have h1 := ho 1 (by simp)
  have h2 := ho 2 (by simp)
  have h3 := ho 3 (by simp)
  simp only [okAt, List.getD_cons_zero, List.getD_cons_succ] at h0 h1 h2 h3
  rw [if_neg (by omega), if_neg (by omega), decide_eq_true_eq] at h0 h1
  have e0 := value0_eq h0
  have e1 := value0_eq h1
  by_cases hc : c = 61
  · subst hc
    rw [if_pos (by simp), beq_iff_eq] at h3
    subst h3
    rw [if_neg (by omega), if_pos (by simp)] at h2
    subst h2
    have hm : many4 [a, b, 61, 61] = 2 := by simp [many4, h0, h1, value_61]
    simp [looseAt] at hl
    have hx : three4 [a, b, 61, 61] = [UInt8.ofNat (all4 [a, b, 61, 61] / 65536)] := by rw [three4, hm]; rfl
    have ha : all4 [a, b, 61, 61] = (value a * 64 + value b) * 4096 := by simp only [all4, List.getD_cons_zero, List.getD_cons_succ, value0_61, e0, e1]; omega
    rw [hx, ha]
    refine ⟨?_, by simp, by simp, by simp⟩
    simp only [enc4, four64, all24, List.length_cons, List.length_nil, List.getD_cons_zero, List.getD_cons_succ, List.getD_nil, show (0 : UInt8).toNat = 0 from rfl, UInt8.toNat_ofNat']
    rw [if_neg (by omega), if_neg (by omega), if_pos (by omega), if_pos (by omega), dig_back h0 (by omega), dig_back h1 (by omega)]
  · rw [if_neg (by omega), if_neg (by simp [hc]), decide_eq_true_eq] at h2
    have e2 := value0_eq h2
    rw [if_neg (by simp [hc])] at h3
    by_cases hd : d = 61
    · subst hd
      rw [if_pos (by simp)] at h3
      subst h3
      have hm : many4 [a, b, c, 61] = 3 := by simp [many4, h0, h1, h2, value_61]
      simp [looseAt, hc] at hl
      have hx : three4 [a, b, c, 61] = [UInt8.ofNat (all4 [a, b, c, 61] / 65536), UInt8.ofNat (all4 [a, b, c, 61] / 256)] := by rw [three4, hm]; rfl
      have ha : all4 [a, b, c, 61] = ((value a * 64 + value b) * 64 + value c) * 64 := by simp only [all4, List.getD_cons_zero, List.getD_cons_succ, value0_61, e0, e1, e2]; omega
      rw [hx, ha]
      refine ⟨?_, by simp, by simp, by simp⟩
      simp only [enc4, four64, all24, List.length_cons, List.length_nil, List.getD_cons_zero, List.getD_cons_succ, List.getD_nil, show (0 : UInt8).toNat = 0 from rfl, UInt8.toNat_ofNat']
      rw [if_neg (by omega), if_neg (by omega), if_neg (by omega), if_pos (by omega), dig_back h0 (by omega), dig_back h1 (by omega), dig_back h2 (by omega)]
    · rw [if_neg (by simp [hd]), decide_eq_true_eq] at h3
      have e3 := value0_eq h3
      have hm : many4 [a, b, c, d] = 4 := by simp [many4, h0, h1, h2, h3]
      have hx : three4 [a, b, c, d] = [UInt8.ofNat (all4 [a, b, c, d] / 65536), UInt8.ofNat (all4 [a, b, c, d] / 256), UInt8.ofNat (all4 [a, b, c, d])] := by rw [three4, hm]; rfl
      have ha : all4 [a, b, c, d] = ((value a * 64 + value b) * 64 + value c) * 64 + value d := by simp only [all4, List.getD_cons_zero, List.getD_cons_succ, e0, e1, e2, e3]
      rw [hx, ha]
      refine ⟨?_, by simp, by simp, by simp⟩
      simp only [enc4, four64, all24, List.length_cons, List.length_nil, List.getD_cons_zero, List.getD_cons_succ, UInt8.toNat_ofNat']
      rw [if_neg (by omega), if_neg (by omega), if_neg (by omega), if_neg (by omega), dig_back h0 (by omega), dig_back h1 (by omega), dig_back h2 (by omega), dig_back h3 (by omega)]
theorem after_ok {r : Except Nat (List UInt8)} {p t : List UInt8} {n : Nat} (h : after n p r = .ok t) : ∃ u, r = .ok u ∧ t = p ++ u := by
  cases r with
  | error j => cases h
  | ok u => exact ⟨u, rfl, by simpa [after] using h.symm⟩
theorem enc_append3 {p t : List UInt8} (h : p.length = 3) : enc (p ++ t) = enc4 p ++ enc t := by
  match p, h with
  | [a, b, c], _ => rfl
theorem enc_short {p : List UInt8} (h : 1 ≤ p.length) (h3 : p.length ≤ 3) : enc p = enc4 p := by
  match p, h, h3 with
  | [a], _, _ => rfl
  | [a, b], _, _ => rfl
  | [a, b, c], _, _ => simp [enc]
  | a :: b :: c :: d :: r, _, h3 => simp only [List.length_cons] at h3; omega
theorem no_short {l : List UInt8} (h : l.length < 4) {r : Except Nat (List UInt8)} {last : Bool} {t : List UInt8} : decStep l last r ≠ .ok t := by
  intro e
  unfold decStep at e
  split at e
  · cases e
  · rename_i hn
    have := (of_wrong4 hn).2.1
    omega
theorem enc_dec : ∀ (n : Nat) (l t : List UInt8), l.length ≤ n → dec l = .ok t → enc t = l := by
  intro n
  induction n with
  | zero => intro l t hn h; obtain rfl : l = [] := List.eq_nil_of_length_eq_zero (by omega); rw [dec_nil] at h; injection h with h; subst h; rfl
  | succ n ih =>
    intro l t hn h
    match l, hn, h with
    | [], _, h => rw [dec_nil] at h; injection h with h; subst h; rfl
    | [a], _, h => exact absurd h (no_short (by simp))
    | [a, b], _, h => exact absurd h (no_short (by simp))
    | [a, b, c], _, h => exact absurd h (no_short (by simp))
    | a :: b :: c :: d :: r, hn, h =>
      change decStep [a, b, c, d] (r.length == 0) (dec r) = .ok t at h
      cases hw : wrong4 [a, b, c, d] (r.length == 0) with
      | some i => rw [decStep_bad hw] at h; cases h
      | none =>
        rw [decStep_good hw] at h
        obtain ⟨u, hu, rfl⟩ := after_ok h
        obtain ⟨he, h3, hl1, hl3⟩ := enc_four hw
        have hr := ih r u (by simp only [List.length_cons] at hn; omega) hu
        cases hz : r.length == 0 with
        | true =>
          obtain rfl : r = [] := List.eq_nil_of_length_eq_zero (by simpa using hz)
          rw [dec_nil] at hu
          injection hu with hu
          subst hu
          rw [List.append_nil, enc_short hl1 hl3, he]
        | false =>
          rw [enc_append3 (h3 hz), he, hr]; rfl
theorem hex2_eq (c : UInt8) : hex2 c = [dig16 (c.toNat / 16), dig16 (c.toNat % 16)] := rfl
theorem put16_eq (x : UInt8) (h : Nat) : put16 x h = UInt8.ofNat (16 * x.toNat + h) := rfl
theorem all24_eq (l : List UInt8) : all24 l = (l.getD 0 0).toNat * 65536 + (l.getD 1 0).toNat * 256 + (l.getD 2 0).toNat := rfl
theorem four64_end {l : List UInt8} {i : Nat} (h : l.length < i) : four64 l i = 61 := if_pos h
theorem four64_dig {l : List UInt8} {i : Nat} (h : ¬ l.length < i) : four64 l i = dig64 (all24 l / 2 ^ (18 - 6 * i) % 64) := if_neg h
theorem enc4_take_succ {l : List UInt8} {i : Nat} (h : i < 4) : (enc4 l).take (i + 1) = (enc4 l).take i ++ [four64 l i] := by
  match i, h with
  | 0, _ => rfl
  | 1, _ => rfl
  | 2, _ => rfl
  | 3, _ => rfl
/-- Three bytes as a number. -/
def num3 (x y z : UInt8) : Nat := x.toNat * 65536 + y.toNat * 256 + z.toNat
theorem num3_eq (x y z : UInt8) : num3 x y z = x.toNat * 65536 + y.toNat * 256 + z.toNat := rfl
theorem num3_lt (x y z : UInt8) : num3 x y z < 16777216 := by have := x.toNat_lt; have := y.toNat_lt; have := z.toNat_lt; rw [num3_eq]; omega
theorem okAt_low {f : List UInt8} {last : Bool} {i : Nat} (h : i < 2) : okAt f last i = decide (value (f.getD i 0) < 64) := by rw [okAt, if_neg (by omega), if_neg (by omega)]
theorem okAt_2_end {f : List UInt8} {last : Bool} (h : f.getD 2 0 = 61) : okAt f last 2 = last := by rw [okAt, if_neg (by omega), if_pos ⟨by omega, h⟩]
theorem okAt_2 {f : List UInt8} {last : Bool} (h : f.getD 2 0 ≠ 61) : okAt f last 2 = decide (value (f.getD 2 0) < 64) := by rw [okAt, if_neg (by omega), if_neg (by simp only [h, and_false, not_false_eq_true])]
theorem okAt_3_both {f : List UInt8} {last : Bool} (h : f.getD 2 0 = 61) : okAt f last 3 = (f.getD 3 0 == 61) := by rw [okAt, if_pos ⟨rfl, h⟩]
theorem okAt_3_end {f : List UInt8} {last : Bool} (h2 : f.getD 2 0 ≠ 61) (h : f.getD 3 0 = 61) : okAt f last 3 = last := by rw [okAt, if_neg (fun e => h2 e.2), if_pos ⟨by omega, h⟩]
theorem okAt_3 {f : List UInt8} {last : Bool} (h2 : f.getD 2 0 ≠ 61) (h : f.getD 3 0 ≠ 61) : okAt f last 3 = decide (value (f.getD 3 0) < 64) := by rw [okAt, if_neg (fun e => h2 e.2), if_neg (fun e => h e.2)]
theorem wrong4_at {four : List UInt8} {last : Bool} {i : Nat} (hi : i < four.length) (h1 : ∀ j, j < i → okAt four last j = true) (h2 : okAt four last i = false) : wrong4 four last = some i := by
  have e := firstWrong_of hi h1 h2
  rw [wrong4_bad (by omega), e]
theorem looseAt_1 {f : List UInt8} (h : f.getD 2 0 = 61) : looseAt f = (1, 16) := if_pos h
theorem looseAt_2 {f : List UInt8} (h2 : f.getD 2 0 ≠ 61) (h : f.getD 3 0 = 61) : looseAt f = (2, 4) := by rw [looseAt, if_neg h2, if_pos h]
theorem looseAt_0 {f : List UInt8} (h2 : f.getD 2 0 ≠ 61) (h : f.getD 3 0 ≠ 61) : looseAt f = (0, 1) := by rw [looseAt, if_neg h2, if_neg h]
theorem wrong4_le {four : List UInt8} {last : Bool} {i : Nat} (h : wrong4 four last = some i) : i ≤ max four.length 2 := by
  unfold wrong4 at h
  split at h
  · injection h with h; omega
  · split at h
    · injection h with h; omega
    · split at h
      · injection h with h; subst h
        unfold looseAt; split
        · simp; omega
        · split
          · simp; omega
          · simp
      · cases h
theorem length_enc : ∀ (n : Nat) (l : List UInt8), l.length ≤ n → (enc l).length = (l.length + 2) / 3 * 4 := by
  intro n
  induction n with
  | zero => intro l h; obtain rfl : l = [] := List.eq_nil_of_length_eq_zero (by omega); rfl
  | succ n ih =>
    intro l h
    match l, h with
    | [], _ => rfl
    | [a], _ => simp [enc, length_enc4]
    | [a, b], _ => simp [enc, length_enc4]
    | a :: b :: c :: r, h =>
      simp only [List.length_cons] at h ⊢
      rw [enc_cons, List.length_append, ih r (by omega), length_enc4]; omega
theorem value0_no {c : UInt8} (h : ¬ value c < 64) : value0 c = 0 := if_neg h
/-- A number with six bits more. -/
def app6 (a v : Nat) : Nat := a * 64 + v
theorem app6_eq (a v : Nat) : app6 a v = a * 64 + v := rfl
/-- The bytes of a four as a number, and how many are none of the 64, as far as they have been read. -/
def allTo (f : List UInt8) : Nat → Nat
  | 0 => 0
  | k + 1 => allTo f k * 64 + value0 (f.getD k 0)
theorem allTo_zero (f : List UInt8) : allTo f 0 = 0 := rfl
theorem allTo_succ (f : List UInt8) (k : Nat) : allTo f (k + 1) = allTo f k * 64 + value0 (f.getD k 0) := rfl
theorem allTo_lt (f : List UInt8) (k : Nat) : allTo f k < 64 ^ k := by
  induction k with
  | zero => simp [allTo]
  | succ k ih => have := value0_le (f.getD k 0); rw [allTo_succ, Nat.pow_succ]; omega
theorem allTo_all (f : List UInt8) : allTo f 4 = all4 f := by simp only [allTo, all4]; omega
def missTo (f : List UInt8) : Nat → Nat
  | 0 => 0
  | k + 1 => missTo f k + if value (f.getD k 0) < 64 then 0 else 1
theorem missTo_zero (f : List UInt8) : missTo f 0 = 0 := rfl
theorem missTo_yes {f : List UInt8} {k : Nat} (h : value (f.getD k 0) < 64) : missTo f (k + 1) = missTo f k := by rw [missTo, if_pos h]; rfl
theorem missTo_no {f : List UInt8} {k : Nat} (h : ¬ value (f.getD k 0) < 64) : missTo f (k + 1) = missTo f k + 1 := by rw [missTo, if_neg h]
theorem missTo_le (f : List UInt8) (k : Nat) : missTo f k ≤ k := by
  induction k with
  | zero => simp [missTo]
  | succ k ih => rw [missTo]; split <;> omega
theorem missTo_all {f : List UInt8} (h : f.length = 4) : missTo f 4 + many4 f = 4 := by
  match f, h with
  | [a, b, c, d], _ =>
    simp only [missTo, many4, List.getD_cons_zero, List.getD_cons_succ, List.map_cons, List.map_nil, List.sum_cons, List.sum_nil]
    repeat' split
    all_goals omega
/-- The three bytes of a four, whether they are all told or not. -/
def full4 (f : List UInt8) : List UInt8 := [UInt8.ofNat (all4 f / 65536), UInt8.ofNat (all4 f / 256), UInt8.ofNat (all4 f)]
theorem full4_eq (f : List UInt8) : full4 f = [UInt8.ofNat (all4 f / 65536), UInt8.ofNat (all4 f / 256), UInt8.ofNat (all4 f)] := rfl
theorem length_full4 (f : List UInt8) : (full4 f).length = 3 := rfl
theorem three4_eq (f : List UInt8) : three4 f = (full4 f).take (many4 f - 1) := rfl
theorem two_of_good {f : List UInt8} {last : Bool} (h : wrong4 f last = none) (h4 : f.length = 4) : 2 ≤ many4 f := by
  have ho := (of_wrong4 h).1
  match f, h4 with
  | [a, b, c, d], _ =>
    have h0 := ho 0 (by simp)
    have h1 := ho 1 (by simp)
    rw [okAt_low (by omega), decide_eq_true_eq] at h0 h1
    simp only [List.getD_cons_zero, List.getD_cons_succ] at h0 h1
    simp only [many4, List.map_cons, List.map_nil, List.sum_cons, List.sum_nil, if_pos h0, if_pos h1]; omega
theorem many4_le {f : List UInt8} (h4 : f.length = 4) : many4 f ≤ 4 := by have := missTo_all h4; omega
theorem unhex_eq (l : List UInt8) : unhex l = if bad16 l < l.length ∨ l.length % 2 ≠ 0 then .error (bad16 l) else .ok (pairs l) := rfl
theorem half_eq (c : UInt8) : half c = halfN c.toNat := rfl
theorem value_eq (c : UInt8) : value c = valueN c.toNat := rfl
attribute [irreducible] app6 allTo missTo full4 num3 digits16 digits64 dig16 dig64 hex hex2 bad16 pairs unhex unhexTo all24 four64 enc4 enc okAt looseAt firstWrong wrong4 many4 all4 three4 decStep dec after half value value0 put16
end Dig
