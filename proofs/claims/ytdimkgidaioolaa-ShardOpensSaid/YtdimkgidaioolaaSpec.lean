/- The plain mathematics of layer 1: what the sums are, as functions on lists of bytes. No program is imported here. -/
namespace Dig

/-! The operations on words, each under a name of its own. -/
def ad (a b : UInt32) : UInt32 := a + b
def xr (a b : UInt32) : UInt32 := a ^^^ b
def an (a b : UInt32) : UInt32 := a &&& b
def oR (a b : UInt32) : UInt32 := a ||| b
def nt (a : UInt32) : UInt32 := ~~~a

/-- A word turned left by n places. -/
def rotl (x : UInt32) (n : Nat) : UInt32 := UInt32.ofNat (x.toNat * 2 ^ n) ||| UInt32.ofNat (x.toNat / 2 ^ (32 - n))

/-- The byte's place within its word. -/
def place (low : Bool) (i : Nat) : Nat := if low then i % 4 else 3 - i % 4

def wstep (low : Bool) (bs : List UInt8) (ws : List UInt32) (i : Nat) : List UInt32 :=
  ws.set (i / 4) (ws.getD (i / 4) 0 ||| UInt32.ofNat ((bs.getD i 0).toNat * 2 ^ (8 * place low i)))

def wordsTo (low : Bool) (bs : List UInt8) : Nat → List UInt32
  | 0 => List.replicate 16 0
  | k + 1 => wstep low bs (wordsTo low bs k) k

theorem wordsTo_zero (low : Bool) (bs : List UInt8) : wordsTo low bs 0 = List.replicate 16 0 := rfl
theorem wordsTo_succ (low : Bool) (bs : List UInt8) (k : Nat) : wordsTo low bs (k + 1) = wstep low bs (wordsTo low bs k) k := rfl
theorem length_wordsTo (low : Bool) (bs : List UInt8) (k : Nat) : (wordsTo low bs k).length = 16 := by
  induction k with
  | zero => rfl
  | succ k ih => simp [wordsTo, wstep, ih]

/-- The sixteen words of a block. -/
def words (low : Bool) (bs : List UInt8) : List UInt32 := wordsTo low bs 64
theorem length_words (low : Bool) (bs : List UInt8) : (words low bs).length = 16 := length_wordsTo low bs 64
theorem words_eq (low : Bool) (bs : List UInt8) : wordsTo low bs 64 = words low bs := rfl
attribute [irreducible] wordsTo words

/-! SHA-256: FIPS 180-4. -/
def k256 : List UInt32 := [
  0x428a2f98, 0x71374491, 0xb5c0fbcf, 0xe9b5dba5, 0x3956c25b, 0x59f111f1, 0x923f82a4, 0xab1c5ed5,
  0xd807aa98, 0x12835b01, 0x243185be, 0x550c7dc3, 0x72be5d74, 0x80deb1fe, 0x9bdc06a7, 0xc19bf174,
  0xe49b69c1, 0xefbe4786, 0x0fc19dc6, 0x240ca1cc, 0x2de92c6f, 0x4a7484aa, 0x5cb0a9dc, 0x76f988da,
  0x983e5152, 0xa831c66d, 0xb00327c8, 0xbf597fc7, 0xc6e00bf3, 0xd5a79147, 0x06ca6351, 0x14292967,
  0x27b70a85, 0x2e1b2138, 0x4d2c6dfc, 0x53380d13, 0x650a7354, 0x766a0abb, 0x81c2c92e, 0x92722c85,
  0xa2bfe8a1, 0xa81a664b, 0xc24b8b70, 0xc76c51a3, 0xd192e819, 0xd6990624, 0xf40e3585, 0x106aa070,
  0x19a4c116, 0x1e376c08, 0x2748774c, 0x34b0bcb5, 0x391c0cb3, 0x4ed8aa4a, 0x5b9cca4f, 0x682e6ff3,
  0x748f82ee, 0x78a5636f, 0x84c87814, 0x8cc70208, 0x90befffa, 0xa4506ceb, 0xbef9a3f7, 0xc67178f2]
def h256 : List UInt32 := [0x6a09e667, 0xbb67ae85, 0x3c6ef372, 0xa54ff53a, 0x510e527f, 0x9b05688c, 0x1f83d9ab, 0x5be0cd19]
def shr (x : UInt32) (n : Nat) : UInt32 := UInt32.ofNat (x.toNat / 2 ^ n)
def near (x : UInt32) : UInt32 := xr (xr (rotl x 15) (rotl x 13)) (shr x 10)
def far (x : UInt32) : UInt32 := xr (xr (rotl x 25) (rotl x 14)) (shr x 3)
def spreadStep (w : List UInt32) (k : Nat) : List UInt32 :=
  w.set (16 + k) (ad (ad (ad (near (w.getD (14 + k) 0)) (w.getD (9 + k) 0)) (far (w.getD (1 + k) 0))) (w.getD k 0))
def spreadTo (bs : List UInt8) : Nat → List UInt32
  | 0 => words false bs ++ List.replicate 48 0
  | k + 1 => spreadStep (spreadTo bs k) k
theorem spreadTo_zero (bs : List UInt8) : spreadTo bs 0 = words false bs ++ List.replicate 48 0 := rfl
theorem spreadTo_succ (bs : List UInt8) (k : Nat) : spreadTo bs (k + 1) = spreadStep (spreadTo bs k) k := rfl
theorem length_spreadTo (bs : List UInt8) (k : Nat) : (spreadTo bs k).length = 64 := by
  induction k with
  | zero => rw [spreadTo_zero, List.length_append, length_words]; rfl
  | succ k ih => rw [spreadTo_succ, spreadStep, List.length_set, ih]
def spread (bs : List UInt8) : List UInt32 := spreadTo bs 48
theorem length_spread (bs : List UInt8) : (spread bs).length = 64 := length_spreadTo bs 48
theorem spread_eq (bs : List UInt8) : spreadTo bs 48 = spread bs := rfl

structure Eight where
  a : UInt32
  b : UInt32
  c : UInt32
  d : UInt32
  e : UInt32
  f : UInt32
  g : UInt32
  h : UInt32
def Eight.list (s : Eight) : List UInt32 := [s.a, s.b, s.c, s.d, s.e, s.f, s.g, s.h]
def Eight.of (l : List UInt32) : Eight := ⟨l.getD 0 0, l.getD 1 0, l.getD 2 0, l.getD 3 0, l.getD 4 0, l.getD 5 0, l.getD 6 0, l.getD 7 0⟩
def first (k w : UInt32) (s : Eight) : UInt32 :=
  ad (ad (ad (ad s.h (xr (xr (rotl s.e 26) (rotl s.e 21)) (rotl s.e 7))) (xr (an s.e s.f) (an (nt s.e) s.g))) k) w
def second (s : Eight) : UInt32 :=
  ad (xr (xr (rotl s.a 30) (rotl s.a 19)) (rotl s.a 10)) (xr (xr (an s.a s.b) (an s.a s.c)) (an s.b s.c))
def round (k w : UInt32) (s : Eight) : Eight := ⟨ad (first k w s) (second s), s.a, s.b, s.c, ad s.d (first k w s), s.e, s.f, s.g⟩
def roundsTo (ws : List UInt32) (s : Eight) : Nat → Eight
  | 0 => s
  | k + 1 => round (k256.getD k 0) (ws.getD k 0) (roundsTo ws s k)
theorem roundsTo_zero (ws : List UInt32) (s : Eight) : roundsTo ws s 0 = s := rfl
theorem roundsTo_succ (ws : List UInt32) (s : Eight) (k : Nat) : roundsTo ws s (k + 1) = round (k256.getD k 0) (ws.getD k 0) (roundsTo ws s k) := rfl
/-- What a block makes of the eight words. -/
def turn256 (s : List UInt32) (bs : List UInt8) : List UInt32 :=
  List.zipWith ad s (roundsTo (spread bs) (Eight.of s) 64).list
theorem length_turn256 (s : List UInt32) (bs : List UInt8) (h : s.length = 8) : (turn256 s bs).length = 8 := by
  simp [turn256, h, Eight.list]

/-! MD5: RFC 1321. -/
def k5 : List UInt32 := [
  0xd76aa478, 0xe8c7b756, 0x242070db, 0xc1bdceee, 0xf57c0faf, 0x4787c62a, 0xa8304613, 0xfd469501,
  0x698098d8, 0x8b44f7af, 0xffff5bb1, 0x895cd7be, 0x6b901122, 0xfd987193, 0xa679438e, 0x49b40821,
  0xf61e2562, 0xc040b340, 0x265e5a51, 0xe9b6c7aa, 0xd62f105d, 0x02441453, 0xd8a1e681, 0xe7d3fbc8,
  0x21e1cde6, 0xc33707d6, 0xf4d50d87, 0x455a14ed, 0xa9e3e905, 0xfcefa3f8, 0x676f02d9, 0x8d2a4c8a,
  0xfffa3942, 0x8771f681, 0x6d9d6122, 0xfde5380c, 0xa4beea44, 0x4bdecfa9, 0xf6bb4b60, 0xbebfbc70,
  0x289b7ec6, 0xeaa127fa, 0xd4ef3085, 0x04881d05, 0xd9d4d039, 0xe6db99e5, 0x1fa27cf8, 0xc4ac5665,
  0xf4292244, 0x432aff97, 0xab9423a7, 0xfc93a039, 0x655b59c3, 0x8f0ccc92, 0xffeff47d, 0x85845dd1,
  0x6fa87e4f, 0xfe2ce6e0, 0xa3014314, 0x4e0811a1, 0xf7537e82, 0xbd3af235, 0x2ad7d2bb, 0xeb86d391]
def h5 : List UInt32 := [0x67452301, 0xefcdab89, 0x98badcfe, 0x10325476]
def turns5 : List Nat := [7, 12, 17, 22, 5, 9, 14, 20, 4, 11, 16, 23, 6, 10, 15, 21]
structure Four where
  a : UInt32
  b : UInt32
  c : UInt32
  d : UInt32
def Four.list (s : Four) : List UInt32 := [s.a, s.b, s.c, s.d]
def Four.of (l : List UInt32) : Four := ⟨l.getD 0 0, l.getD 1 0, l.getD 2 0, l.getD 3 0⟩
/-- What is mixed of three words, by the quarter. -/
def mix5 (q : Nat) (s : Four) : UInt32 :=
  match q with
  | 0 => oR (an s.b s.c) (an (nt s.b) s.d)
  | 1 => oR (an s.d s.b) (an (nt s.d) s.c)
  | 2 => xr (xr s.b s.c) s.d
  | _ => xr s.c (oR s.b (nt s.d))
/-- Which word is taken. -/
def word5 (i : Nat) : Nat :=
  match i / 16 with
  | 0 => i % 16
  | 1 => (5 * i + 1) % 16
  | 2 => (3 * i + 5) % 16
  | _ => (7 * i) % 16
theorem word5_0 {i : Nat} (h : i / 16 = 0) : word5 i = i % 16 := by simp [word5, h]
theorem word5_1 {i : Nat} (h : i / 16 = 1) : word5 i = (5 * i + 1) % 16 := by simp [word5, h]
theorem word5_2 {i : Nat} (h : i / 16 = 2) : word5 i = (3 * i + 5) % 16 := by simp [word5, h]
theorem word5_3 {i : Nat} (h : i / 16 = 3) : word5 i = (7 * i) % 16 := by simp [word5, h]
def round5 (q n : Nat) (k w : UInt32) (s : Four) : Four := ⟨s.d, ad s.b (rotl (ad (mix5 q s) (ad (ad s.a k) w)) n), s.b, s.c⟩
def roundsTo5 (ws : List UInt32) (s : Four) : Nat → Four
  | 0 => s
  | i + 1 => round5 (i / 16) (turns5.getD (i / 16 * 4 + i % 4) 0) (k5.getD i 0) (ws.getD (word5 i) 0) (roundsTo5 ws s i)
theorem roundsTo5_zero (ws : List UInt32) (s : Four) : roundsTo5 ws s 0 = s := rfl
theorem roundsTo5_succ (ws : List UInt32) (s : Four) (i : Nat) : roundsTo5 ws s (i + 1) = round5 (i / 16) (turns5.getD (i / 16 * 4 + i % 4) 0) (k5.getD i 0) (ws.getD (word5 i) 0) (roundsTo5 ws s i) := rfl
def turn5 (s : List UInt32) (bs : List UInt8) : List UInt32 := List.zipWith ad s (roundsTo5 (words true bs) (Four.of s) 64).list
theorem turn5_eq (s : List UInt32) (bs : List UInt8) : turn5 s bs = List.zipWith ad s (roundsTo5 (words true bs) (Four.of s) 64).list := rfl
theorem length_turn5 (s : List UInt32) (bs : List UInt8) (h : s.length = 4) : (turn5 s bs).length = 4 := by
  simp [turn5, h, Four.list]
theorem length_k5 : k5.length = 64 := rfl
theorem length_h5 : h5.length = 4 := rfl
theorem length_turns5 : turns5.length = 16 := rfl
theorem turns5_lt : ∀ i, i < 16 → turns5.getD i 0 < 32 := by decide

/-! HMAC: FIPS 198-1. -/
def x8 (a b : UInt8) : UInt8 := a ^^^ b
theorem x8_eq (a b : UInt8) : x8 a b = a ^^^ b := rfl
/-- A block that begins with the key. -/
def keyBlock (key : List UInt8) : List UInt8 := key ++ List.replicate (64 - key.length) 0
def masked (key : List UInt8) (m : UInt8) : List UInt8 := (keyBlock key).map fun b => x8 b m
theorem length_keyBlock (key : List UInt8) (h : key.length ≤ 64) : (keyBlock key).length = 64 := by simp [keyBlock]; omega
theorem length_masked (key : List UInt8) (m : UInt8) (h : key.length ≤ 64) : (masked key m).length = 64 := by rw [masked, List.length_map, length_keyBlock _ h]

/-! A text, filled up to whole blocks. -/
/-- The byte at place j of a number, the lowest one first. -/
def byteAt (n j : Nat) : UInt8 := UInt8.ofNat (n / 2 ^ (8 * j))
def placeOf (low : Bool) (m i : Nat) : Nat := if low then i else m - 1 - i
/-- The first k of the m bytes of a number, the lowest first, or the highest. -/
def bytesTo (low : Bool) (m n : Nat) : Nat → List UInt8
  | 0 => []
  | k + 1 => bytesTo low m n k ++ [byteAt n (placeOf low m k)]
theorem bytesTo_succ (low : Bool) (m n k : Nat) : bytesTo low m n (k + 1) = bytesTo low m n k ++ [byteAt n (placeOf low m k)] := rfl
theorem length_bytesTo (low : Bool) (m n k : Nat) : (bytesTo low m n k).length = k := by
  induction k with
  | zero => rfl
  | succ k ih => rw [bytesTo_succ, List.length_append, ih]; rfl
def lenBytes (low : Bool) (n : Nat) : List UInt8 := bytesTo low 8 (8 * n) 8
def closing (low : Bool) (n : Nat) : List UInt8 := 128 :: (List.replicate ((119 - n % 64) % 64) 0 ++ lenBytes low n)
def padded (low : Bool) (l : List UInt8) : List UInt8 := l ++ closing low l.length
/-- As many blocks as there are, one behind the other. -/
def run {S : Type} (turn : S → List UInt8 → S) : Nat → S → List UInt8 → S
  | 0, s, _ => s
  | n + 1, s, l => run turn n (turn s (l.take 64)) (l.drop 64)
def textOf (low : Bool) : List UInt32 → List UInt8
  | [] => []
  | x :: r => bytesTo low 4 x.toNat 4 ++ textOf low r
theorem textOf_append (low : Bool) (a b : List UInt32) : textOf low (a ++ b) = textOf low a ++ textOf low b := by
  induction a with
  | nil => rfl
  | cons x r ih => simp only [List.cons_append, textOf, ih, List.append_assoc]
theorem length_textOf (low : Bool) (a : List UInt32) : (textOf low a).length = 4 * a.length := by
  induction a with
  | nil => rfl
  | cons x r ih => simp only [textOf, List.length_append, List.length_cons, ih, length_bytesTo]; omega
theorem textOf_snoc (low : Bool) (a : List UInt32) (x : UInt32) : textOf low (a ++ [x]) = textOf low a ++ bytesTo low 4 x.toNat 4 := by
  rw [textOf_append]; simp [textOf]
def sum5 (l : List UInt8) : List UInt8 := textOf true (run turn5 ((padded true l).length / 64) h5 (padded true l))
def sum256 (l : List UInt8) : List UInt8 := textOf false (run turn256 ((padded false l).length / 64) h256 (padded false l))

theorem byteAt_eq (n j : Nat) : byteAt n j = UInt8.ofNat (n / 2 ^ (8 * j)) := rfl
theorem bytesTo_zero (low : Bool) (m n : Nat) : bytesTo low m n 0 = [] := rfl
theorem textOf_nil (low : Bool) : textOf low [] = [] := rfl
theorem ad_eq (a b : UInt32) : ad a b = a + b := rfl
theorem xr_eq (a b : UInt32) : xr a b = a ^^^ b := rfl
theorem an_eq (a b : UInt32) : an a b = a &&& b := rfl
theorem oR_eq (a b : UInt32) : oR a b = a ||| b := rfl
theorem nt_eq (a : UInt32) : nt a = ~~~a := rfl
theorem rotl_eq (x : UInt32) (n : Nat) : rotl x n = UInt32.ofNat (x.toNat * 2 ^ n) ||| UInt32.ofNat (x.toNat / 2 ^ (32 - n)) := rfl
theorem shr_eq (x : UInt32) (n : Nat) : shr x n = UInt32.ofNat (x.toNat / 2 ^ n) := rfl
theorem near_eq (x : UInt32) : near x = xr (xr (rotl x 15) (rotl x 13)) (shr x 10) := rfl
theorem far_eq (x : UInt32) : far x = xr (xr (rotl x 25) (rotl x 14)) (shr x 3) := rfl
theorem first_eq (k w : UInt32) (s : Eight) : first k w s = ad (ad (ad (ad s.h (xr (xr (rotl s.e 26) (rotl s.e 21)) (rotl s.e 7))) (xr (an s.e s.f) (an (nt s.e) s.g))) k) w := rfl
theorem second_eq (s : Eight) : second s = ad (xr (xr (rotl s.a 30) (rotl s.a 19)) (rotl s.a 10)) (xr (xr (an s.a s.b) (an s.a s.c)) (an s.b s.c)) := rfl
theorem turn256_eq (s : List UInt32) (bs : List UInt8) : turn256 s bs = List.zipWith ad s (roundsTo (spread bs) (Eight.of s) 64).list := rfl
theorem run_zero {S : Type} (turn : S → List UInt8 → S) (s : S) (l : List UInt8) : run turn 0 s l = s := rfl
theorem run_succ {S : Type} (turn : S → List UInt8 → S) (n : Nat) (s : S) (l : List UInt8) : run turn (n + 1) s l = run turn n (turn s (l.take 64)) (l.drop 64) := rfl
theorem length_k256 : k256.length = 64 := rfl
theorem length_h256 : h256.length = 8 := rfl
theorem run_snoc {S : Type} (turn : S → List UInt8 → S) (bs : List UInt8) (hb : bs.length = 64) : ∀ (n : Nat) (s : S) (l : List UInt8), l.length = 64 * n → run turn (n + 1) s (l ++ bs) = turn (run turn n s l) bs := by
  intro n
  induction n with
  | zero =>
    intro s l hl
    obtain rfl : l = [] := List.eq_nil_of_length_eq_zero (by omega)
    simp [run_succ, run_zero, List.take_of_length_le, hb]
  | succ n ih =>
    intro s l hl
    rw [run_succ, List.take_append_of_le_length (by omega), List.drop_append_of_le_length (by omega), ih _ _ (by rw [List.length_drop]; omega)]
    rw [run_succ]
/-- What all whole blocks of a text make. -/
def fold {S : Type} (turn : S → List UInt8 → S) (s : S) (l : List UInt8) : S := run turn (l.length / 64) s l
theorem fold_nil {S : Type} (turn : S → List UInt8 → S) (s : S) : fold turn s [] = s := rfl
theorem fold_snoc {S : Type} (turn : S → List UInt8 → S) (s : S) (l bs : List UInt8) (hl : l.length % 64 = 0) (hb : bs.length = 64) : fold turn s (l ++ bs) = turn (fold turn s l) bs := by
  unfold fold
  rw [List.length_append, hb, show (l.length + 64) / 64 = l.length / 64 + 1 from by omega, run_snoc turn bs hb _ _ _ (by omega)]
theorem run_keeps {S : Type} (turn : S → List UInt8 → S) (p : S → Prop) (h : ∀ s bs, p s → p (turn s bs)) : ∀ (n : Nat) (s : S) (l : List UInt8), p s → p (run turn n s l) := by
  intro n
  induction n with
  | zero => intro s l hs; exact hs
  | succ n ih => intro s l hs; rw [run_succ]; exact ih _ _ (h _ _ hs)
theorem length_padded (low : Bool) (l : List UInt8) : (padded low l).length % 64 = 0 := by
  simp only [padded, closing, List.length_append, List.length_cons, List.length_replicate, lenBytes, length_bytesTo]
  omega
theorem length_closing (low : Bool) (n : Nat) : (closing low n).length ≤ 72 := by
  simp only [closing, List.length_append, List.length_cons, List.length_replicate, lenBytes, length_bytesTo]
  omega
theorem padded_eq (low : Bool) (l : List UInt8) : padded low l = l ++ closing low l.length := rfl
theorem closing_eq (low : Bool) (n : Nat) : closing low n = 128 :: (List.replicate ((119 - n % 64) % 64) 0 ++ bytesTo low 8 (8 * n) 8) := rfl
theorem sum256_eq (l : List UInt8) : sum256 l = textOf false (fold turn256 h256 (padded false l)) := rfl
theorem sum5_eq (l : List UInt8) : sum5 l = textOf true (fold turn5 h5 (padded true l)) := rfl
theorem length_fold256 (l : List UInt8) : (fold turn256 h256 l).length = 8 := run_keeps turn256 (fun s => s.length = 8) (fun s bs h => length_turn256 s bs h) _ _ _ rfl
theorem length_fold5 (l : List UInt8) : (fold turn5 h5 l).length = 4 := run_keeps turn5 (fun s => s.length = 4) (fun s bs h => length_turn5 s bs h) _ _ _ rfl
def shortKey (key : List UInt8) : List UInt8 := if 64 < key.length then sum256 key else key
def mac (key s : List UInt8) : List UInt8 := sum256 (masked (shortKey key) 0x5c ++ sum256 (masked (shortKey key) 0x36 ++ s))
theorem mac_eq (key s : List UInt8) : mac key s = sum256 (masked (shortKey key) 0x5c ++ sum256 (masked (shortKey key) 0x36 ++ s)) := rfl
theorem keyBlock_eq (key : List UInt8) : keyBlock key = key ++ List.replicate (64 - key.length) 0 := rfl
theorem masked_eq (key : List UInt8) (m : UInt8) : masked key m = (keyBlock key).map fun b => x8 b m := rfl
theorem length_sum256 (l : List UInt8) : (sum256 l).length = 32 := by rw [sum256_eq, length_textOf, length_fold256]
theorem length_sum5 (l : List UInt8) : (sum5 l).length = 16 := by rw [sum5_eq, length_textOf, length_fold5]
attribute [irreducible] x8 keyBlock masked mac fold closing padded sum256 sum5 byteAt bytesTo textOf k5 h5 turns5 roundsTo5 turn5 ad xr an oR nt k256 h256 spreadTo spread roundsTo turn256 shr rotl near far first second run

end Dig
