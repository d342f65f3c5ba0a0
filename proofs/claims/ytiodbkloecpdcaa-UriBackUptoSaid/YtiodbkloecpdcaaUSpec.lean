/- Escapes, targets, queries, names: plain functions on lists of bytes. -/
namespace Go.Proofs.Ytiodbkloecpdcaa.Ur

def sml (c : UInt8) : Bool := decide (97 ≤ c.toNat) && decide (c.toNat ≤ 122)
def cap (c : UInt8) : Bool := decide (65 ≤ c.toNat) && decide (c.toNat ≤ 90)
def dgt (c : UInt8) : Bool := decide (48 ≤ c.toNat) && decide (c.toNat ≤ 57)
def fre (c : UInt8) : Bool := sml c || cap c || dgt c || c == 45 || c == 46 || c == 95 || c == 126
def freP (c : UInt8) : Bool := fre c || c == 47
def odd (c : UInt8) : Bool := decide (c.toNat < 33) || decide (126 < c.toNat) || c == 35
def firm (c : UInt8) : Bool := sml c || dgt c
def ofName (c : UInt8) : Bool := firm c || c == 45 || c == 46
def adr (c : UInt8) : Bool := dgt c || c == 46
def hx (n : Nat) : UInt8 := UInt8.ofNat (if n < 10 then 48 + n else 55 + n)
/-- What a sixteenth tells; below nothing, if it is none. -/
def val (c : UInt8) : Int := if dgt c then (c.toNat : Int) - 48 else if 65 ≤ c.toNat ∧ c.toNat ≤ 70 then (c.toNat : Int) - 55 else if 97 ≤ c.toNat ∧ c.toNat ≤ 102 then (c.toNat : Int) - 87 else -1
theorem val_bd (c : UInt8) : -1 ≤ val c ∧ val c ≤ 15 := by
  unfold val dgt
  split
  · rename_i h
    simp only [Bool.and_eq_true, decide_eq_true_eq] at h
    omega
  · split
    · omega
    · split <;> omega
/-- A byte in escapes. -/
def encB (p : UInt8 → Bool) (c : UInt8) : List UInt8 := if p c then [c] else [37, hx (c.toNat / 16), hx (c.toNat % 16)]
def enc (p : UInt8 → Bool) : List UInt8 → List UInt8
  | [] => []
  | c :: r => encB p c ++ enc p r
theorem enc_append (p : UInt8 → Bool) (a b : List UInt8) : enc p (a ++ b) = enc p a ++ enc p b := by
  induction a with
  | nil => rfl
  | cons c r ih => simp [enc, ih]
theorem encB_len (p : UInt8 → Bool) (c : UInt8) : (encB p c).length ≤ 3 := by unfold encB; split <;> simp
theorem enc_len (p : UInt8 → Bool) (l : List UInt8) : (enc p l).length ≤ 3 * l.length := by
  induction l with
  | nil => simp [enc]
  | cons c r ih => have := encB_len p c; simp only [enc, List.length_append, List.length_cons]; omega
theorem enc_step (p : UInt8 → Bool) (l : List UInt8) (j : Nat) (h : j < l.length) : enc p (l.take (j + 1)) = enc p (l.take j) ++ encB p (l.getD j 0) := by
  rw [List.take_succ_eq_append_getElem h, enc_append]
  congr 1
  simp [enc, List.getD, List.getElem?_eq_getElem h]

/-- What a text tells in escapes, its first byte being at i; or the place of the first that is none. -/
inductive Told where
  | ok (l : List UInt8)
  | bad (i : Nat)
deriving DecidableEq
def Told.pre (a : List UInt8) : Told → Told
  | .ok l => .ok (a ++ l)
  | .bad i => .bad i
theorem Told.pre_pre (a b : List UInt8) (t : Told) : Told.pre a (Told.pre b t) = Told.pre (a ++ b) t := by cases t <;> simp [Told.pre]
theorem Told.pre_nil (t : Told) : Told.pre [] t = t := by cases t <;> simp [Told.pre]
def byte (a b : UInt8) : UInt8 := UInt8.ofNat (16 * (val a).toNat + (val b).toNat)
def dec : Nat → List UInt8 → Told
  | _, [] => .ok []
  | i, c :: r => if c = 37 then
      (match r with
      | a :: b :: r' => if 0 ≤ val a ∧ 0 ≤ val b then Told.pre [byte a b] (dec (i + 3) r') else .bad i
      | _ => .bad i)
    else Told.pre [c] (dec (i + 1) r)
theorem drop_cons (S : List UInt8) (i : Nat) (h : i < S.length) : S.drop i = S.getD i 0 :: S.drop (i + 1) := by
  rw [List.drop_eq_getElem_cons h]; simp [List.getD, List.getElem?_eq_getElem h]
theorem dec_end (k : Nat) (S : List UInt8) (i : Nat) (h : S.length ≤ i) : dec k (S.drop i) = .ok [] := by rw [List.drop_eq_nil_of_le h]; rfl
theorem dec_not (i : Nat) (c : UInt8) (r : List UInt8) (h : c ≠ 37) : dec i (c :: r) = Told.pre [c] (dec (i + 1) r) := by
  match r with
  | [] => simp [dec, h]
  | [_] => simp [dec, h]
  | _ :: _ :: _ => simp [dec, h]
theorem dec_two (i : Nat) (a b : UInt8) (r : List UInt8) : dec i (37 :: a :: b :: r) = if 0 ≤ val a ∧ 0 ≤ val b then Told.pre [byte a b] (dec (i + 3) r) else .bad i := by simp [dec]
theorem dec_plain (k : Nat) (S : List UInt8) (i : Nat) (h : i < S.length) (hc : S.getD i 0 ≠ 37) : dec k (S.drop i) = Told.pre [S.getD i 0] (dec (k + 1) (S.drop (i + 1))) := by
  rw [drop_cons S i h, dec_not _ _ _ hc]
theorem dec_short (k : Nat) (S : List UInt8) (i : Nat) (h : i < S.length) (hc : S.getD i 0 = 37) (hs : S.length < i + 3) : dec k (S.drop i) = .bad k := by
  have hl : (S.drop (i + 1)).length < 2 := by rw [List.length_drop]; omega
  rw [drop_cons S i h, hc]
  match S.drop (i + 1), hl with
  | [], _ => simp [dec]
  | [_], _ => simp [dec]
theorem dec_good (k : Nat) (S : List UInt8) (i : Nat) (h : i + 3 ≤ S.length) (hc : S.getD i 0 = 37) (ha : 0 ≤ val (S.getD (i + 1) 0)) (hb : 0 ≤ val (S.getD (i + 2) 0)) : dec k (S.drop i) = Told.pre [byte (S.getD (i + 1) 0) (S.getD (i + 2) 0)] (dec (k + 3) (S.drop (i + 3))) := by
  rw [drop_cons S i (by omega), hc, drop_cons S (i + 1) (by omega), drop_cons S (i + 1 + 1) (by omega), dec_two, if_pos ⟨ha, hb⟩]
theorem dec_wrong (k : Nat) (S : List UInt8) (i : Nat) (h : i + 3 ≤ S.length) (hc : S.getD i 0 = 37) (hw : val (S.getD (i + 1) 0) < 0 ∨ val (S.getD (i + 2) 0) < 0) : dec k (S.drop i) = .bad k := by
  rw [drop_cons S i (by omega), hc, drop_cons S (i + 1) (by omega), drop_cons S (i + 1 + 1) (by omega), dec_two]
  rw [if_neg (by show ¬ (0 ≤ val (S.getD (i + 1) 0) ∧ 0 ≤ val (S.getD (i + 2) 0)); omega)]

/-- How many bytes stand ahead of the first of a kind. -/
def len (p : UInt8 → Bool) : List UInt8 → Nat
  | [] => 0
  | c :: r => if p c then 0 else len p r + 1
theorem len_le (p : UInt8 → Bool) (l : List UInt8) : len p l ≤ l.length := by
  induction l with
  | nil => simp [len]
  | cons c r ih => simp only [len, List.length_cons]; split <;> omega
theorem len_hit (p : UInt8 → Bool) (l : List UInt8) (j : Nat) (hj : j < l.length) (h : p (l.getD j 0) = true) (hb : ∀ k, k < j → p (l.getD k 0) = false) : len p l = j := by
  induction l generalizing j with
  | nil => simp at hj
  | cons c r ih =>
    cases j with
    | zero => simp only [List.getD_cons_zero] at h; simp [len, h]
    | succ j =>
      have h0 := hb 0 (by omega)
      simp only [List.getD_cons_zero] at h0
      simp only [len, h0, Bool.false_eq_true, if_false]
      rw [ih j (by simpa using hj) (by simpa using h) (fun k hk => by have := hb (k + 1) (by omega); simpa using this)]
theorem len_miss (p : UInt8 → Bool) (l : List UInt8) (hb : ∀ k, k < l.length → p (l.getD k 0) = false) : len p l = l.length := by
  induction l with
  | nil => rfl
  | cons c r ih =>
    have h0 := hb 0 (by simp)
    simp only [List.getD_cons_zero] at h0
    simp only [len, h0, Bool.false_eq_true, if_false, List.length_cons]
    rw [ih (fun k hk => by have := hb (k + 1) (by simpa using hk); simpa using this)]
theorem len_never (l : List UInt8) : len (fun _ => false) l = l.length := len_miss _ l (fun _ _ => rfl)
theorem len_all (p : UInt8 → Bool) (l : List UInt8) : (len (fun c => !p c) l == l.length) = l.all p := by
  induction l with
  | nil => rfl
  | cons c r ih =>
    by_cases h : p c = true
    · rw [len, if_neg (by simp [h]), List.all_cons, h, Bool.true_and, ← ih, List.length_cons]
      by_cases h2 : len (fun c => !p c) r = r.length <;> simp [h2]
    · have h' : p c = false := by simpa using h
      rw [len, if_pos (by simp [h']), List.all_cons, h', Bool.false_and, List.length_cons]
      simp

/-- The parts that n cuts give, each with its place. -/
def cuts (d : UInt8) : Nat → Nat → List UInt8 → List (Nat × List UInt8)
  | 0, _, _ => []
  | n + 1, i, l => (i, l.take (len (· == d) l)) :: cuts d n (i + min (len (· == d) l + 1) l.length) (l.drop (len (· == d) l + 1))
inductive Two where
  | ok (n v : List UInt8)
  | bad (i : Nat)
deriving DecidableEq
def two (i : Nat) (l : List UInt8) : Two :=
  match dec i (l.take (len (· == 61) l)) with
  | .bad k => .bad k
  | .ok n => match dec (i + min (len (· == 61) l + 1) l.length) (l.drop (len (· == 61) l + 1)) with
    | .bad k => .bad k
    | .ok v => .ok n v
abbrev Pr := List UInt8 × List UInt8
inductive Qry where
  | ok (l : List Pr)
  | bad (i : Nat)
deriving DecidableEq
def Qry.pre (a : List Pr) : Qry → Qry
  | .ok l => .ok (a ++ l)
  | .bad i => .bad i
theorem Qry.pre_pre (a b : List Pr) (t : Qry) : Qry.pre a (Qry.pre b t) = Qry.pre (a ++ b) t := by cases t <;> simp [Qry.pre]
theorem Qry.pre_nil (t : Qry) : Qry.pre [] t = t := by cases t <;> simp [Qry.pre]
def qry : List (Nat × List UInt8) → Qry
  | [] => .ok []
  | (i, l) :: r => if l = [] then qry r else
    match two i l with
    | .bad k => .bad k
    | .ok n v => Qry.pre [(n, v)] (qry r)
def query (i : Nat) (l : List UInt8) : Qry := qry (cuts 38 (1 + l.count 38) i l)
/-- A target taken apart. -/
inductive Tgt where
  | ok (p : List UInt8) (l : List Pr)
  | bad (e i : Nat)
deriving DecidableEq
def target (S : List UInt8) : Tgt :=
  if S.head? ≠ some 47 then .bad 53 0
  else if len odd S < S.length then .bad 53 (len odd S)
  else match dec 0 (S.take (len (· == 63) S)) with
    | .bad k => .bad 52 k
    | .ok p => match query (min (len (· == 63) S + 1) S.length) (S.drop (len (· == 63) S + 1)) with
      | .bad k => .bad 52 k
      | .ok l => .ok p l
/-- A path's bucket and key. -/
def bucketOf (S : List UInt8) : List UInt8 := if S.head? = some 47 then (S.drop 1).take (len (· == 47) (S.drop 1)) else []
def keyOf (S : List UInt8) : List UInt8 := if S.head? = some 47 then (S.drop 1).drop (len (· == 47) (S.drop 1) + 1) else []
def join (b k : List UInt8) : List UInt8 := if k = [] then 47 :: b else 47 :: (b ++ 47 :: k)
end Go.Proofs.Ytiodbkloecpdcaa.Ur
