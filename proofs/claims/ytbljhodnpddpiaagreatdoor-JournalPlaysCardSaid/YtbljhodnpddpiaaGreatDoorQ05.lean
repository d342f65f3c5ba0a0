/- Several texts in one, in the order in which they build: FSpec FBase FSum FNum FShelf. -/
import Derived.Test.YtbljhodnpddpiaaGreatDoorQ02
import Derived.Test.YtbljhodnpddpiaaGreatDoorRows
import Derived.Test.YtbljhodnpddpiaaGreatDoorQ03
import Derived.RegionTactic
import Derived.Shelf.Strings.Builder1
import Derived.Shelf.Strings.Builder2
import Derived.Shelf.Strconv.Clone
/- The plain mathematics of layer 3: sums, lists of texts, records, as functions on lists of bytes. No program is imported here. -/
namespace Fr

/-! CRC-32C. -/
def low (r : UInt32) : UInt32 := r &&& 1
def half (r : UInt32) : UInt32 := r >>> 1
def tap (r : UInt32) : UInt32 := r ^^^ 2197175160
def mix (r : UInt32) (c : UInt8) : UInt32 := r ^^^ UInt32.ofNat c.toNat
def nt (r : UInt32) : UInt32 := ~~~r
def xr (a b : UInt32) : UInt32 := a ^^^ b
def step (r : UInt32) : UInt32 := if low r = 0 then half r else tap (half r)
theorem step_0 {r : UInt32} (h : low r = 0) : step r = half r := by rw [step, if_pos h]
theorem step_1 {r : UInt32} (h : ¬ low r = 0) : step r = tap (half r) := by rw [step, if_neg h]
theorem low_or (r : UInt32) : low r = 0 ∨ low r = 1 := by
  have h : r &&& 1 = r % 2 := by
    apply UInt32.toNat.inj
    rw [UInt32.toNat_and, UInt32.toNat_mod]
    exact Nat.and_two_pow_sub_one_eq_mod r.toNat 1
  have e : (r % 2).toNat = r.toNat % 2 := by rw [UInt32.toNat_mod]; rfl
  rcases Nat.mod_two_eq_zero_or_one r.toNat with h0 | h1
  · left; rw [low, h]; apply UInt32.toNat.inj; rw [e, h0]; rfl
  · right; rw [low, h]; apply UInt32.toNat.inj; rw [e, h1]; rfl
def steps : Nat → UInt32 → UInt32
  | 0, r => r
  | k + 1, r => step (steps k r)
theorem steps_zero (r : UInt32) : steps 0 r = r := rfl
theorem steps_succ (k : Nat) (r : UInt32) : steps (k + 1) r = step (steps k r) := rfl
def take (r : UInt32) (c : UInt8) : UInt32 := steps 8 (mix r c)
theorem take_eq (r : UInt32) (c : UInt8) : steps 8 (mix r c) = take r c := rfl
def run (r : UInt32) (l : List UInt8) : UInt32 := l.foldl take r
theorem run_nil (r : UInt32) : run r [] = r := rfl
theorem run_cons (r : UInt32) (c : UInt8) (l : List UInt8) : run r (c :: l) = run (take r c) l := rfl
theorem run_append (r : UInt32) (a b : List UInt8) : run r (a ++ b) = run (run r a) b := List.foldl_append
theorem run_snoc (r : UInt32) (l : List UInt8) (c : UInt8) : run r (l ++ [c]) = take (run r l) c := by rw [run_append]; rfl
def more (s : UInt32) (l : List UInt8) : UInt32 := nt (run (nt s) l)
def sum (l : List UInt8) : UInt32 := more 0 l
theorem more_eq (s : UInt32) (l : List UInt8) : more s l = nt (run (nt s) l) := rfl
theorem sum_eq (l : List UInt8) : more 0 l = sum l := rfl
def zero (n : Nat) : List UInt8 := List.replicate n 0
theorem zero_succ (n : Nat) : zero (n + 1) = zero n ++ [0] := by rw [zero, zero, List.replicate_succ']
theorem length_zero (n : Nat) : (zero n).length = n := by simp [zero]
def join (a b : UInt32) (n : Nat) : UInt32 := xr (run a (zero n)) b
theorem join_eq (a b : UInt32) (n : Nat) : join a b n = xr (run a (zero n)) b := rfl

/-! Numbers as bytes, the greatest first. -/
def byteAt (n k : Nat) : UInt8 := UInt8.ofNat (n / 2 ^ (8 * k))
theorem byteAt_eq (n k : Nat) : byteAt n k = UInt8.ofNat (n / 2 ^ (8 * k)) := rfl
def be : Nat → Nat → List UInt8
  | 0, _ => []
  | k + 1, n => byteAt n k :: be k n
theorem be_zero (n : Nat) : be 0 n = [] := rfl
theorem be_succ (k n : Nat) : be (k + 1) n = byteAt n k :: be k n := rfl
theorem length_be (k n : Nat) : (be k n).length = k := by
  induction k with
  | zero => rfl
  | succ k ih => rw [be_succ, List.length_cons, ih]
theorem be_get (n : Nat) : ∀ (k i : Nat), i < k → (be k n)[i]? = some (byteAt n (k - 1 - i)) := by
  intro k
  induction k with
  | zero => intro i h; omega
  | succ k ih =>
    intro i h
    cases i with
    | zero => rw [be_succ, List.getElem?_cons_zero]; rfl
    | succ i => rw [be_succ, List.getElem?_cons_succ, ih i (by omega)]; congr 2; omega
theorem take_be (k n j : Nat) (h : j < k) : (be k n).take (j + 1) = (be k n).take j ++ [byteAt n (k - 1 - j)] := by
  have hl := length_be k n
  have e := be_get n k j h
  rw [List.take_succ_eq_append_getElem (by omega)]
  rw [List.getElem?_eq_getElem (by omega)] at e
  injection e with e
  rw [e]
def num (l : List UInt8) : Nat := l.foldl (fun n c => n * 256 + c.toNat) 0
theorem num_nil : num [] = 0 := rfl
theorem num_snoc (l : List UInt8) (c : UInt8) : num (l ++ [c]) = num l * 256 + c.toNat := by rw [num, List.foldl_append]; rfl
theorem numFrom_eq (l : List UInt8) : ∀ s : Nat, l.foldl (fun n c => n * 256 + c.toNat) s = s * 256 ^ l.length + num l := by
  induction l with
  | nil => intro s; simp [num]
  | cons c l ih =>
    intro s
    have e : num (c :: l) = l.foldl (fun n c => n * 256 + c.toNat) c.toNat := by simp [num]
    rw [List.foldl_cons, ih, e, ih, List.length_cons, Nat.pow_succ, Nat.add_mul, Nat.mul_assoc, Nat.mul_comm 256, Nat.add_assoc]
theorem num_cons (c : UInt8) (l : List UInt8) : num (c :: l) = c.toNat * 256 ^ l.length + num l := by
  have e : num (c :: l) = l.foldl (fun n c => n * 256 + c.toNat) c.toNat := by simp [num]
  rw [e, numFrom_eq]
theorem num_lt (l : List UInt8) : num l < 256 ^ l.length := by
  induction l with
  | nil => decide
  | cons c l ih =>
    have hc := c.toNat_lt
    have h1 : c.toNat * 256 ^ l.length ≤ 255 * 256 ^ l.length := Nat.mul_le_mul_right _ (by omega)
    rw [num_cons, List.length_cons, Nat.pow_succ]
    omega
theorem pow_256 (k : Nat) : 2 ^ (8 * k) = 256 ^ k := by rw [Nat.pow_mul]
theorem num_be (n : Nat) : ∀ k, num (be k n) = n % 256 ^ k := by
  intro k
  induction k with
  | zero => simp [be, num, Nat.mod_one]
  | succ k ih =>
    rw [be_succ, num_cons, length_be, ih, byteAt, pow_256, UInt8.toNat_ofNat', show 256 ^ (k + 1) = 256 ^ k * 256 from Nat.pow_succ 256 k, Nat.mod_mul, show 2 ^ 8 = 256 from rfl, Nat.mul_comm, Nat.add_comm]
theorem num_be_lt {n k : Nat} (h : n < 256 ^ k) : num (be k n) = n := by rw [num_be, Nat.mod_eq_of_lt h]
theorem num_inj : ∀ (a b : List UInt8), a.length = b.length → num a = num b → a = b := by
  intro a
  induction a with
  | nil => intro b hl _; exact (List.eq_nil_of_length_eq_zero hl.symm).symm
  | cons c a ih =>
    intro b hl h
    cases b with
    | nil => simp at hl
    | cons d b =>
      have hl' : a.length = b.length := by simpa using hl
      rw [num_cons, num_cons, hl'] at h
      have la := num_lt a
      have lb := num_lt b
      rw [hl'] at la
      have hp : 0 < 256 ^ b.length := Nat.pow_pos (by decide)
      have e1 : (c.toNat * 256 ^ b.length + num a) / 256 ^ b.length = c.toNat := by rw [Nat.mul_comm, Nat.mul_add_div hp, Nat.div_eq_of_lt la]; rfl
      have e2 : (d.toNat * 256 ^ b.length + num b) / 256 ^ b.length = d.toNat := by rw [Nat.mul_comm, Nat.mul_add_div hp, Nat.div_eq_of_lt lb]; rfl
      have e : c.toNat = d.toNat := by rw [← e1, ← e2, h]
      have e' : num a = num b := by rw [e] at h; omega
      rw [UInt8.toNat.inj e, ih b hl' e']
theorem be_num {l : List UInt8} {k : Nat} (h : l.length = k) : be k (num l) = l :=
  num_inj _ _ (by rw [length_be, h]) (num_be_lt (by rw [← h]; exact num_lt l))

/-! Lists of texts. -/
def texts (l : List (List UInt8)) : List UInt8 := l.flatMap fun t => be 4 t.length ++ t
theorem texts_nil : texts [] = [] := rfl
theorem texts_cons (t : List UInt8) (l : List (List UInt8)) : texts (t :: l) = be 4 t.length ++ (t ++ texts l) := by simp [texts]
theorem texts_snoc (l : List (List UInt8)) (t : List UInt8) : texts (l ++ [t]) = texts l ++ (be 4 t.length ++ t) := by simp [texts]
def list (l : List (List UInt8)) : List UInt8 := be 4 l.length ++ texts l
theorem list_eq (l : List (List UInt8)) : list l = be 4 l.length ++ texts l := rfl
def sizeFrom (n : Nat) (l : List (List UInt8)) : Nat := l.foldl (fun n t => n + (4 + t.length)) n
theorem sizeFrom_eq (l : List (List UInt8)) : ∀ n, sizeFrom n l = n + (texts l).length := by
  induction l with
  | nil => intro n; simp [sizeFrom, texts]
  | cons t l ih =>
    intro n
    have e : sizeFrom n (t :: l) = sizeFrom (n + (4 + t.length)) l := rfl
    rw [e, ih, texts_cons, List.length_append, List.length_append, length_be]; omega
theorem length_list (l : List (List UInt8)) : (list l).length = 4 + (texts l).length := by rw [list, List.length_append, length_be]
/-- The number that stands at a place, if it may be. -/
def cntIn (r : List UInt8) : Option Nat := if r.length < 4 then none else if num (r.take 4) ≤ r.length - 4 then some (num (r.take 4)) else none
/-- The texts of a list, and the place behind them; or the place of what is wrong. -/
def parts (s : List UInt8) : Nat → Nat → List (List UInt8) → Nat ⊕ (List (List UInt8) × Nat)
  | 0, at_, acc => .inr (acc, at_)
  | k + 1, at_, acc => match cntIn (s.drop at_) with
    | none => .inl at_
    | some n => parts s k (at_ + 4 + n) (acc ++ [(s.drop (at_ + 4)).take n])
theorem parts_zero (s : List UInt8) (at_ : Nat) (acc : List (List UInt8)) : parts s 0 at_ acc = .inr (acc, at_) := rfl
theorem parts_bad {s : List UInt8} {k at_ : Nat} {acc : List (List UInt8)} (h : cntIn (s.drop at_) = none) : parts s (k + 1) at_ acc = .inl at_ := by rw [parts, h]
theorem parts_ok {s : List UInt8} {k at_ n : Nat} {acc : List (List UInt8)} (h : cntIn (s.drop at_) = some n) : parts s (k + 1) at_ acc = parts s k (at_ + 4 + n) (acc ++ [(s.drop (at_ + 4)).take n]) := by rw [parts, h]
/-- What Split tells: the place of what is wrong, or the texts. -/
def split (s : List UInt8) : Nat ⊕ List (List UInt8) :=
  match cntIn s with
  | none => .inl 0
  | some many => match parts s many 4 [] with
    | .inl p => .inl p
    | .inr (l, p) => if p < s.length then .inl p else if 60000 < s.length then .inl 0 else .inr l
theorem cntIn_some {r : List UInt8} {n : Nat} (h : cntIn r = some n) : 4 + n ≤ r.length ∧ n = num (r.take 4) := by
  unfold cntIn at h
  split at h
  · cases h
  · split at h
    · injection h with h; omega
    · cases h
theorem cntIn_le {r : List UInt8} {n : Nat} (h : cntIn r = some n) : 4 + n ≤ r.length := (cntIn_some h).1
theorem cntIn_be {n : Nat} {r : List UInt8} (hn : n < 256 ^ 4) (hr : n ≤ r.length) : cntIn (be 4 n ++ r) = some n := by
  have hl : (be 4 n ++ r).length = 4 + r.length := by rw [List.length_append, length_be]
  have ht : (be 4 n ++ r).take 4 = be 4 n := List.take_left' (length_be 4 n)
  unfold cntIn
  rw [ht, num_be_lt hn, hl, if_neg (by omega), if_pos (by omega)]
/-- What was listed is taken apart again. -/
theorem parts_texts (l : List (List UInt8)) : ∀ (h rest : List UInt8) (acc : List (List UInt8)), (∀ t ∈ l, t.length < 256 ^ 4) → parts (h ++ (texts l ++ rest)) l.length h.length acc = .inr (acc ++ l, h.length + (texts l).length) := by
  induction l with
  | nil => intro h rest acc _; rw [List.length_nil, parts_zero]; simp [texts]
  | cons t l ih =>
    intro h rest acc hw
    have ht := hw t (List.mem_cons_self ..)
    have e1 : (h ++ (texts (t :: l) ++ rest)).drop h.length = be 4 t.length ++ (t ++ (texts l ++ rest)) := by
      rw [List.drop_left, texts_cons]; simp
    have hc : cntIn ((h ++ (texts (t :: l) ++ rest)).drop h.length) = some t.length := by
      rw [e1]; exact cntIn_be ht (by rw [List.length_append]; omega)
    rw [List.length_cons, parts_ok hc]
    have e2 : (h ++ (texts (t :: l) ++ rest)).drop (h.length + 4) = t ++ (texts l ++ rest) := by
      rw [← List.drop_drop, e1]; exact List.drop_left' (length_be 4 _)
    have e3 : h ++ (texts (t :: l) ++ rest) = (h ++ (be 4 t.length ++ t)) ++ (texts l ++ rest) := by rw [texts_cons]; simp
    have e4 : (h ++ (be 4 t.length ++ t)).length = h.length + 4 + t.length := by simp [length_be]; omega
    rw [e2, List.take_left' rfl, e3, ← e4, ih _ rest _ (fun u hu => hw u (List.mem_cons_of_mem _ hu)), texts_cons, List.append_assoc, List.singleton_append]
    congr 2
    rw [e4]; simp [length_be]; omega
theorem mem_texts {l : List (List UInt8)} {t : List UInt8} (h : t ∈ l) : t.length + 4 ≤ (texts l).length := by
  induction l with
  | nil => cases h
  | cons u l ih =>
    rw [texts_cons, List.length_append, List.length_append, length_be]
    rcases List.mem_cons.1 h with rfl | h
    · omega
    · have := ih h; omega
theorem many_texts (l : List (List UInt8)) : 4 * l.length ≤ (texts l).length := by
  induction l with
  | nil => simp
  | cons u l ih => rw [texts_cons, List.length_append, List.length_append, length_be, List.length_cons]; omega
theorem split_list (l : List (List UInt8)) (h : (list l).length ≤ 60000) : split (list l) = .inr l := by
  have hl := length_list l
  have hm := many_texts l
  have hc : cntIn (list l) = some l.length := by rw [list]; exact cntIn_be (by omega) (by omega)
  have hp := parts_texts l (be 4 l.length) [] [] (fun t ht => by have := mem_texts ht; omega)
  rw [length_be, List.append_nil, ← list_eq, List.nil_append] at hp
  unfold split
  rw [hc]
  simp only [hp]
  rw [if_neg (by omega), if_neg (by omega)]
/-- What was taken apart is the list of what came. -/
theorem parts_back (s : List UInt8) : ∀ (k at_ : Nat) (acc l : List (List UInt8)) (p : Nat), at_ ≤ s.length → parts s k at_ acc = .inr (l, p) → ∃ m, l = acc ++ m ∧ m.length = k ∧ p ≤ s.length ∧ at_ ≤ p ∧ (s.drop at_).take (p - at_) = texts m := by
  intro k
  induction k with
  | zero =>
    intro at_ acc l p ha h
    rw [parts_zero] at h
    injection h with h
    injection h with h1 h2
    subst h1 h2
    exact ⟨[], by simp, rfl, ha, Nat.le_refl _, by simp [texts]⟩
  | succ k ih =>
    intro at_ acc l p ha h
    cases hc : cntIn (s.drop at_) with
    | none => rw [parts_bad hc] at h; cases h
    | some n =>
      rw [parts_ok hc] at h
      obtain ⟨hle, hn⟩ := cntIn_some hc
      rw [List.length_drop] at hle
      obtain ⟨m, rfl, hm, hp, hap, ht⟩ := ih _ _ _ _ (by omega) h
      have h4 : ((s.drop at_).take 4).length = 4 := by rw [List.length_take, List.length_drop]; omega
      have hnl : ((s.drop (at_ + 4)).take n).length = n := by rw [List.length_take, List.length_drop]; omega
      refine ⟨(s.drop (at_ + 4)).take n :: m, by simp, by simp [hm], hp, by omega, ?_⟩
      rw [texts_cons, hnl, ← ht]
      have hb : be 4 n = (s.drop at_).take 4 := by rw [hn, be_num h4]
      rw [hb]
      have e : p - at_ = 4 + (n + (p - (at_ + 4 + n))) := by omega
      rw [e, List.take_add, List.drop_drop, List.take_add, List.drop_drop]
theorem split_back {s : List UInt8} {l : List (List UInt8)} (h : split s = .inr l) : list l = s ∧ s.length ≤ 60000 := by
  unfold split at h
  cases hc : cntIn s with
  | none => rw [hc] at h; cases h
  | some many =>
    rw [hc] at h
    simp only at h
    obtain ⟨hle, hn⟩ := cntIn_some hc
    cases hp : parts s many 4 [] with
    | inl p => rw [hp] at h; cases h
    | inr x =>
      obtain ⟨l', p⟩ := x
      rw [hp] at h
      simp only at h
      split at h
      · cases h
      · split at h
        · cases h
        · injection h with h
          subst h
          obtain ⟨m, e, hm, hps, h4p, ht⟩ := parts_back s many 4 [] l' p (by omega) hp
          rw [List.nil_append] at e
          subst e
          have hps' : p = s.length := by omega
          have h4 : (s.take 4).length = 4 := by rw [List.length_take]; omega
          refine ⟨?_, by omega⟩
          have ht2 : s.drop 4 = texts l' := by rw [← ht, List.take_of_length_le (by rw [List.length_drop]; omega)]
          rw [list, hm, hn, be_num h4, ← ht2, List.take_append_drop]

/-! Records. -/
def headOf (epoch number size : Nat) : List UInt8 := be 4 size ++ be 4 number ++ be 8 epoch
theorem headOf_eq (epoch number size : Nat) : be 4 size ++ be 4 number ++ be 8 epoch = headOf epoch number size := rfl
theorem length_headOf (epoch number size : Nat) : (headOf epoch number size).length = 16 := by simp [headOf, length_be]
def sumOf (h p : List UInt8) : List UInt8 := be 4 (more (sum h) p).toNat
theorem length_sumOf (h p : List UInt8) : (sumOf h p).length = 4 := length_be _ _
def whole (n : Nat) : Nat := (n + 87) / 64 * 64
theorem whole_ge (n : Nat) : 24 + n ≤ whole n := by unfold whole; omega
theorem whole_mod (n : Nat) : whole n % 64 = 0 := by unfold whole; omega
theorem whole_le (n : Nat) : whole n ≤ n + 87 := by unfold whole; omega
def front (h p : List UInt8) : List UInt8 := [1, 0, 0, 0] ++ h ++ sumOf h p ++ p
def record (epoch number : Nat) (p : List UInt8) : List UInt8 :=
  [1, 0, 0, 0] ++ headOf epoch number p.length ++ sumOf (headOf epoch number p.length) p ++ p ++ zero (whole p.length - 24 - p.length)
theorem length_record (epoch number : Nat) (p : List UInt8) : (record epoch number p).length = whole p.length := by
  have := whole_ge p.length
  simp only [record, List.length_append, length_headOf, length_sumOf, length_zero, List.length_cons, List.length_nil]; omega
theorem sum_append (a b : List UInt8) : more (sum a) b = sum (a ++ b) := by
  rw [sum, sum, more_eq, more_eq, more_eq, run_append]
  congr 2
  simp [nt]
attribute [irreducible] low half tap mix nt xr take run more sum zero join byteAt be num texts list
end Fr

/- The bytes of a text; what a byte's type is. -/
namespace Go.Proofs.YtbljhodnpddpiaaGreatDoor
open Go.RowKit

/-- The byte of a string at a place. -/
def strAt (s : ByteArray) (i : Nat) : UInt8 := s.data.toList.getD i 0
theorem strAt_eq (s : ByteArray) (i : Nat) : strAt s i = s.data.toList.getD i 0 := rfl
attribute [irreducible] strAt
theorem run_index_byte {P : Program} (w : World) (t : TypeId) (s : ByteArray) (k : IntKind) (i : Nat) (h : P.underlying t = some .string) (hi : i < s.size) :
    (Instr.index t (.string s) (.int k (i : Int))).run P w = .ok (.int .u8 ((strAt s i).toNat : Int)) w := by
  rw [strAt_eq, run_index_string w t s k i h, dif_pos (by omega)]
  have hl : i < s.data.toList.length := by rw [size_toList]; exact hi
  simp only [List.getD, List.getElem?_eq_getElem hl]
  rfl
theorem infoByte : (Tryz.prog.info? 5).map (fun i => (i.zero, i.size, i.bytes)) = some (some (.int .u8 0), 1, 1) := by kernel_rfl

def zb (n : Nat) : List Value := (Fr.zero n).map u8v
theorem zb_eq (n : Nat) : zb n = List.replicate n (.int .u8 0) := by unfold zb Fr.zero; rw [List.map_replicate]; rfl
theorem length_zb (n : Nat) : (zb n).length = n := by rw [zb_eq, List.length_replicate]
theorem make_bytes (n : Nat) (hn : n ≤ 70368744177664) (w : World) : (Instr.makeSlice 59 (.int .i64 (n : Int)) (.int .i64 (n : Int))).run Tryz.prog w = .ok (.slice (some ⟨w.heap.size, 0, none⟩) n n) (w.alloc (.cells (zb n).toArray 5)) := by
  obtain ⟨i0, hi, hz0, hz1, hz2⟩ := info_parts infoByte
  have h := run_make (P := Tryz.prog) w 59 5 i0 _ Tryz.underlying59 hi hz0 .i64 .i64 (n : Int) (n : Int) (by omega) (by omega) (by rw [hz2]; omega) (by omega)
  rw [hz1] at h
  have e : madeCells (Value.int .u8 0).cells ((n : Int).toNat * 1) = (zb n).toArray := by
    have := made_same (Value.int .u8 0) 1 ((n : Int).toNat * 1) (by omega)
    rw [show (Value.int .u8 0).cells = Array.replicate 1 (Value.int .u8 0) from rfl, this, zb_eq]; simp
  rw [e] at h
  simpa using h
attribute [irreducible] zb
end Go.Proofs.YtbljhodnpddpiaaGreatDoor

/- The walks of layer 3's sums, the program's and the document's. -/
namespace Go.Proofs.YtbljhodnpddpiaaGreatDoor
open Go.RowKit

theorem f_low (x : UInt32) : bits .and .u32 (x.toNat : Int) 1 = ((Fr.low x).toNat : Int) := by
  have h := fold_and x 1
  rw [show ((1 : UInt32).toNat : Int) = 1 from rfl] at h
  rw [h]; unfold Fr.low; rfl
theorem f_half (x : UInt32) : (x.toNat : Int) / 2 = ((Fr.half x).toNat : Int) := by
  unfold Fr.half
  rw [UInt32.toNat_shiftRight]
  rw [show (1 : UInt32).toNat % 32 = 1 from rfl, Nat.shiftRight_eq_div_pow]; omega
theorem f_tap (x : UInt32) : bits .xor .u32 (x.toNat : Int) 2197175160 = ((Fr.tap x).toNat : Int) := by
  have h := fold_xor x 2197175160
  rw [show ((2197175160 : UInt32).toNat : Int) = 2197175160 from rfl] at h
  rw [h]; unfold Fr.tap; rfl
theorem f_mix (x : UInt32) (c : UInt8) : bits .xor .u32 (x.toNat : Int) ((c.toNat : Int) % 4294967296) = ((Fr.mix x c).toNat : Int) := by
  rw [fold_ofNat, fold_xor]; unfold Fr.mix; rfl
theorem f_nt (x : UInt32) : bits .xor .u32 4294967295 (x.toNat : Int) = ((Fr.nt x).toNat : Int) := by
  rw [fold_not]; unfold Fr.nt; rfl
theorem f_nt' (x : UInt32) : bits .xor .u32 IntKind.u32.max (x.toNat : Int) = ((Fr.nt x).toNat : Int) := f_nt x
theorem f_xr (x y : UInt32) : bits .xor .u32 (x.toNat : Int) (y.toNat : Int) = ((Fr.xr x y).toNat : Int) := by
  rw [fold_xor]; unfold Fr.xr; rfl
theorem f_signed : IntKind.u32.signed = false := rfl
theorem low0 {x : UInt32} (h : Fr.low x = 0) : (((Fr.low x).toNat : Int) == 0) = true := by rw [h]; rfl
theorem low1 {x : UInt32} (h : ¬ Fr.low x = 0) : (((Fr.low x).toNat : Int) == 0) = false := by
  rw [beq_eq_false_iff_ne]; intro e; exact h (UInt32.toNat.inj (by rw [show (0 : UInt32).toNat = 0 from rfl]; omega))
theorem low0' {x : UInt32} (h : Fr.low x = 0) : (((Fr.low x).toNat : Int) == 1) = false := by rw [h]; rfl
theorem low1' {x : UInt32} (h : ¬ Fr.low x = 0) : (((Fr.low x).toNat : Int) == 1) = true := by
  rcases Fr.low_or x with h0 | h1
  · exact absurd h0 h
  · rw [h1]; rfl
attribute [local go_sem high] f_low f_half f_tap f_mix f_nt f_nt' f_xr f_signed run_index_byte

set_option maxHeartbeats 1000000 in
theorem take_any (x : UInt32) (c : UInt8) (w : World) : Calls Tryz.prog 117 #[.int .u32 x.toNat, .int .u8 c.toNat] w fun e w' => e = .returned (.int .u32 (Fr.take x c).toNat) ∧ w = w' := by
  have HE := Lib.hid (Fr.take_eq x c)
  go_enter Tryz.func117, Tryz.ntmps117
  go_wp2_with fail
  obtain ⟨y, hy⟩ : ∃ y, y = Fr.mix x c := ⟨_, rfl⟩
  rw [← hy]
  have HY := Lib.hid hy
  clear hy
  go_loopw [0, 10] (fun r i wr => ∃ j : Nat, j ≤ 8 ∧ i = .int .i64 j ∧ r = .int .u32 (Fr.steps j y).toNat ∧ wr = w) (fun _ i _ => 8 - (intOf i).toNat)
  case atStart => exact ⟨0, by omega, rfl, rfl, rfl⟩
  case round =>
    obtain ⟨j, hj, rfl, rfl, rfl⟩ := hrel
    by_cases hlt : j < 8
    · obtain ⟨r, hr⟩ : ∃ r, r = Fr.steps j y := ⟨_, rfl⟩
      rw [← hr]
      by_cases h0 : Fr.low r = 0
      · have hb := low0 h0
        have HS := Lib.hid (Fr.step_0 h0)
        have HR := Lib.hid hr
        clear h0 hr
        go_wp2_with fail
        go_roundw
        case rel => exact ⟨j + 1, by omega, by go_num, by rw [Fr.steps_succ, ← HR.out, HS.out], trivial⟩
        case measure => simp [intOf]; omega
      · have hb := low1 h0
        have HS := Lib.hid (Fr.step_1 h0)
        have HR := Lib.hid hr
        clear h0 hr
        go_wp2_with fail
        go_roundw
        case rel => exact ⟨j + 1, by omega, by go_num, by rw [Fr.steps_succ, ← HR.out, HS.out], trivial⟩
        case measure => simp [intOf]; omega
    · obtain rfl : j = 8 := by omega
      go_wp2_with fail
      go_ret
      exact ⟨by rw [← HE.out, ← HY.out]; rfl, rfl⟩
set_option maxHeartbeats 1000000 in
theorem Shift_any (x : UInt32) (c : UInt8) (w : World) : Calls Tryz.prog 116 #[.int .u32 x.toNat, .int .u8 c.toNat] w fun e w' => e = .returned (.int .u32 (Fr.take x c).toNat) ∧ w = w' := by
  have HE := Lib.hid (Fr.take_eq x c)
  go_enter Tryz.func116, Tryz.ntmps116
  go_wp2_with fail
  obtain ⟨y, hy⟩ : ∃ y, y = Fr.mix x c := ⟨_, rfl⟩
  rw [← hy]
  have HY := Lib.hid hy
  clear hy
  go_loopw [0, 5] (fun r i wr => ∃ j : Nat, j ≤ 8 ∧ i = .int .i64 j ∧ r = .int .u32 (Fr.steps j y).toNat ∧ wr = w) (fun _ i _ => 8 - (intOf i).toNat)
  case atStart => exact ⟨0, by omega, rfl, rfl, rfl⟩
  case round =>
    obtain ⟨j, hj, rfl, rfl, rfl⟩ := hrel
    by_cases hlt : j < 8
    · obtain ⟨r, hr⟩ : ∃ r, r = Fr.steps j y := ⟨_, rfl⟩
      rw [← hr]
      by_cases h0 : Fr.low r = 0
      · have hb := low0' h0
        have HS := Lib.hid (Fr.step_0 h0)
        have HR := Lib.hid hr
        clear h0 hr
        go_wp2_with fail
        go_roundw
        case rel => exact ⟨j + 1, by omega, by go_num, by rw [Fr.steps_succ, ← HR.out, HS.out], trivial⟩
        case measure => simp [intOf]; omega
      · have hb := low1' h0
        have HS := Lib.hid (Fr.step_1 h0)
        have HR := Lib.hid hr
        clear h0 hr
        go_wp2_with fail
        go_roundw
        case rel => exact ⟨j + 1, by omega, by go_num, by rw [Fr.steps_succ, ← HR.out, HS.out], trivial⟩
        case measure => simp [intOf]; omega
    · obtain rfl : j = 8 := by omega
      go_wp2_with fail
      go_ret
      exact ⟨by rw [← HE.out, ← HY.out]; rfl, rfl⟩
theorem run_at (x : UInt32) (s : ByteArray) (j : Nat) (h : j < s.size) : Fr.take (Fr.run x (s.data.toList.take j)) (strAt s j) = Fr.run x (s.data.toList.take (j + 1)) := by
  have hl := size_toList s
  rw [List.take_succ_eq_append_getElem (by omega), Fr.run_snoc, strAt_eq, List.getD, List.getElem?_eq_getElem (by omega)]; rfl
theorem run_at0 (x : UInt32) (s : ByteArray) : Fr.run x (s.data.toList.take 0) = x := by rw [List.take_zero, Fr.run_nil]
theorem run_end (x : UInt32) (s : ByteArray) : Fr.run x (s.data.toList.take s.size) = Fr.run x s.data.toList := by rw [List.take_of_length_le (by rw [size_toList]; omega)]
set_option maxHeartbeats 1000000 in
theorem More_any (x : UInt32) (s : ByteArray) (hs : s.size ≤ 300000000000000) (w : World) : Calls Tryz.prog 113 #[.int .u32 x.toNat, .string s] w fun e w' => e = .returned (.int .u32 (Fr.more x s.data.toList).toNat) ∧ w = w' := by
  have HE := Lib.hid (Fr.more_eq x s.data.toList)
  go_enter Tryz.func113, Tryz.ntmps113
  go_wp2_with fail
  obtain ⟨y, hy⟩ : ∃ y, y = Fr.nt x := ⟨_, rfl⟩
  rw [← hy]
  have HY := Lib.hid hy
  clear hy
  go_loopw [5, 11] (fun r i wr => ∃ j : Nat, j ≤ s.size ∧ i = .int .i64 j ∧ r = .int .u32 (Fr.run y (s.data.toList.take j)).toNat ∧ wr = w) (fun _ i _ => s.size - (intOf i).toNat)
  case atStart => exact ⟨0, by omega, rfl, by rw [run_at0], rfl⟩
  case round =>
    obtain ⟨j, hj, rfl, rfl, rfl⟩ := hrel
    by_cases hlt : j < s.size
    · go_wp2_with (go_at_call 117; refine (take_any _ _ _).mono ?_; rintro e w' ⟨rfl, rfl⟩)
      go_roundw
      case rel => exact ⟨j + 1, by omega, by go_num, by rw [run_at _ _ _ hlt], trivial⟩
      case measure => simp [intOf]; omega
    · obtain rfl : j = s.size := by omega
      go_wp2_with fail
      go_ret
      exact ⟨by rw [HE.out, run_end, HY.out]; rfl, rfl⟩
set_option maxHeartbeats 1000000 in
theorem rMore_any (x : UInt32) (s : ByteArray) (hs : s.size ≤ 300000000000000) (w : World) : Calls Tryz.prog 111 #[.int .u32 x.toNat, .string s] w fun e w' => e = .returned (.int .u32 (Fr.more x s.data.toList).toNat) ∧ w = w' := by
  have HE := Lib.hid (Fr.more_eq x s.data.toList)
  go_enter Tryz.func111, Tryz.ntmps111
  go_wp2_with fail
  obtain ⟨y, hy⟩ : ∃ y, y = Fr.nt x := ⟨_, rfl⟩
  rw [← hy]
  have HY := Lib.hid hy
  clear hy
  go_loopw [5, 6] (fun r i wr => ∃ j : Nat, j ≤ s.size ∧ i = .int .i64 j ∧ r = .int .u32 (Fr.run y (s.data.toList.take j)).toNat ∧ wr = w) (fun _ i _ => s.size - (intOf i).toNat)
  case atStart => exact ⟨0, by omega, rfl, by rw [run_at0], rfl⟩
  case round =>
    obtain ⟨j, hj, rfl, rfl, rfl⟩ := hrel
    by_cases hlt : j < s.size
    · go_wp2_with (go_at_call 116; refine (Shift_any _ _ _).mono ?_; rintro e w' ⟨rfl, rfl⟩)
      go_roundw
      case rel => exact ⟨j + 1, by omega, by go_num, by rw [run_at _ _ _ hlt], trivial⟩
      case measure => simp [intOf]; omega
    · obtain rfl : j = s.size := by omega
      go_wp2_with fail
      go_ret
      exact ⟨by rw [HE.out, run_end, HY.out]; rfl, rfl⟩
theorem Sum_any (s : ByteArray) (hs : s.size ≤ 300000000000000) (w : World) : Calls Tryz.prog 114 #[.string s] w fun e w' => e = .returned (.int .u32 (Fr.sum s.data.toList).toNat) ∧ w = w' := by
  rw [← Fr.sum_eq]
  go_enter Tryz.func114, Tryz.ntmps114
  go_wp2_with (go_at_call 113; refine (More_any 0 s hs _).mono ?_; rintro e w' ⟨rfl, rfl⟩)
  go_ret
  exact ⟨rfl, rfl⟩
theorem rSum_any (s : ByteArray) (hs : s.size ≤ 300000000000000) (w : World) : Calls Tryz.prog 98 #[.string s] w fun e w' => e = .returned (.int .u32 (Fr.sum s.data.toList).toNat) ∧ w = w' := by
  rw [← Fr.sum_eq]
  go_enter Tryz.func98, Tryz.ntmps98
  go_wp2_with (go_at_call 111; refine (rMore_any 0 s hs _).mono ?_; rintro e w' ⟨rfl, rfl⟩)
  go_ret
  exact ⟨rfl, rfl⟩
theorem run_zero (x : UInt32) (j : Nat) : Fr.take (Fr.run x (Fr.zero j)) 0 = Fr.run x (Fr.zero (j + 1)) := by rw [Fr.zero_succ, Fr.run_snoc]
theorem run_zero0 (x : UInt32) : Fr.run x (Fr.zero 0) = x := by
  rw [show Fr.zero 0 = [] from by unfold Fr.zero; rfl, Fr.run_nil]
theorem take0_any (x : UInt32) (w : World) : Calls Tryz.prog 117 #[.int .u32 x.toNat, .int .u8 0] w fun e w' => e = .returned (.int .u32 (Fr.take x 0).toNat) ∧ w = w' := take_any x 0 w
theorem Shift0_any (x : UInt32) (w : World) : Calls Tryz.prog 116 #[.int .u32 x.toNat, .int .u8 0] w fun e w' => e = .returned (.int .u32 (Fr.take x 0).toNat) ∧ w = w' := Shift_any x 0 w
end Go.Proofs.YtbljhodnpddpiaaGreatDoor

/- The walks of layer 3's numbers as bytes. -/
namespace Go.Proofs.YtbljhodnpddpiaaGreatDoor
open Go.RowKit
attribute [local go_sem high] run_index_byte

/-- The bytes that are laid, of a number. -/
def laidBe (k n j : Nat) : List UInt8 := (Fr.be k n).take j ++ Fr.zero (k - j)
theorem laidBe_0 (k n : Nat) : laidBe k n 0 = Fr.zero k := by rw [laidBe, List.take_zero, List.nil_append, Nat.sub_zero]
theorem laidBe_end (k n : Nat) : laidBe k n k = Fr.be k n := by
  rw [laidBe, Nat.sub_self, show Fr.zero 0 = [] from by unfold Fr.zero; rfl, List.append_nil, List.take_of_length_le (by rw [Fr.length_be]; omega)]
theorem length_laidBe {k n j : Nat} (h : j ≤ k) : (laidBe k n j).length = k := by rw [laidBe, List.length_append, List.length_take, Fr.length_be, Fr.length_zero]; omega
theorem laidBe_succ {k n j : Nat} (h : j < k) : (laidBe k n j).set j (Fr.byteAt n (k - 1 - j)) = laidBe k n (j + 1) := by
  have hl : ((Fr.be k n).take j).length = j := by rw [List.length_take, Fr.length_be]; omega
  rw [laidBe, laidBe, Fr.take_be _ _ _ h, List.set_append_right _ _ (by omega), hl, Nat.sub_self]
  have e : Fr.zero (k - j) = 0 :: Fr.zero (k - (j + 1)) := by
    unfold Fr.zero
    rw [show k - j = (k - (j + 1)) + 1 by omega, List.replicate_succ]
  rw [e, List.set_cons_zero, List.append_assoc, List.singleton_append]
theorem byteAt_mod (n k : Nat) : (n : Int) / 2 ^ (8 * k) % 256 = ((Fr.byteAt n k).toNat : Int) := by
  rw [Fr.byteAt_eq, UInt8.toNat_ofNat']
  simp
theorem or_shift (n : Nat) (c : UInt8) (h : n < 72057594037927936) : bits .or .u64 (IntKind.u64.wrap ((n : Int) * 256)) (IntKind.u64.wrap (c.toNat : Int)) = ((n * 256 + c.toNat : Nat) : Int) := by
  have hc := c.toNat_lt
  have e1 : IntKind.u64.wrap ((n : Int) * 256) = ((n * 256 : Nat) : Int) := by rw [IntKind.wrap_u64]; omega
  have e2 : IntKind.u64.wrap (c.toNat : Int) = (c.toNat : Int) := by rw [IntKind.wrap_u64]; omega
  rw [e1, e2, u64_or_nat _ _ (by omega) (by omega)]
  have := Nat.shiftLeft_add_eq_or_of_lt (i := 8) (b := c.toNat) (by omega) n
  rw [Nat.shiftLeft_eq] at this
  rw [← this]
theorem num_lt4 (l : List UInt8) (j : Nat) (h : j ≤ 4) : Fr.num (l.take j) < 4294967296 := by
  have := Fr.num_lt (l.take j)
  have h2 : (l.take j).length ≤ 4 := by rw [List.length_take]; omega
  have h3 : 256 ^ (l.take j).length ≤ 256 ^ 4 := Nat.pow_le_pow_right (by decide) h2
  have h4 : (256 : Nat) ^ 4 = 4294967296 := by decide
  omega
set_option maxHeartbeats 1000000 in
theorem bytesOf_any (n k : Nat) (hk : k ≤ 8) (w : World) :
    Calls Tryz.prog 112 #[.int .u64 n, .int .i64 k] w fun e w' => e = .returned (.string ⟨(Fr.be k n).toArray⟩) ∧ Below w.heap.size w w' := by
  have mk := make_bytes k (by omega)
  have HK := Lib.hid hk
  go_enter Tryz.func112, Tryz.ntmps112
  go_wp2_with fail
  go_loopw [11] (fun i wr => ∃ j : Nat, j ≤ k ∧ i = .int .i64 j ∧ wr.heap[w.heap.size]? = some (.cells ((laidBe k n j).map u8v).toArray 5 (0, 0)) ∧ Below w.heap.size w wr) (fun i _ => k - (intOf i).toNat)
  case atStart => exact ⟨0, by omega, rfl, by rw [laidBe_0]; unfold zb; exact heap_alloc_new _ _, (Below.refl _ _).alloc (Nat.le_refl _) _⟩
  case round =>
    obtain ⟨j, hj, rfl, hh, hB⟩ := hrel
    by_cases hlt : j < k
    · have c0 : ∃ x, wr.cell? ⟨w.heap.size, j, none⟩ = some x := ⟨_, by rw [cell_of_list hh, List.getElem?_eq_getElem (by rw [List.length_map, length_laidBe hj]; exact hlt)]⟩
      obtain ⟨x, c0⟩ := c0
      have f0 := free_of_list hh j
      have HH := Lib.hid hh
      have HB := Lib.hid hB
      clear hh hB
      go_wp2_with fail
      go_roundw
      case rel =>
        refine ⟨j + 1, by omega, by go_num, ?_, HB.out.setCell (Nat.le_refl _) _⟩
        rw [byteAt_mod, set_list HH.out, ← laidBe_succ hlt, List.map_set]; rfl
      case measure => simp [intOf]; omega
    · obtain rfl : j = k := by omega
      rw [laidBe_end] at hh
      have HR := Lib.hid (range_of_list hh)
      have HB := Lib.hid hB
      have HL := Lib.hid (Fr.length_be j n)
      clear hh hB
      go_wp2_with (refine wpList_bytes_string rfl 59 9 _ rfl 5 w.heap.size 0 j j rfl (Fr.be j n) HL.out Tryz.underlying59 Tryz.underlying5 Tryz.underlying9 HR.out ?_; go_frame)
      go_ret
      exact ⟨rfl, HB.out⟩
set_option maxHeartbeats 1000000 in
theorem numberOf_any (s : ByteArray) (hs : s.size ≤ 4) (w : World) :
    Calls Tryz.prog 107 #[.string s] w fun e w' => e = .returned (.int .u64 (Fr.num s.data.toList)) ∧ w = w' := by
  go_enter Tryz.func107, Tryz.ntmps107
  go_wp2_with fail
  go_loopw [3, 7] (fun r i wr => ∃ j : Nat, j ≤ s.size ∧ i = .int .i64 j ∧ r = .int .u64 (Fr.num (s.data.toList.take j)) ∧ wr = w) (fun _ i _ => s.size - (intOf i).toNat)
  case atStart => exact ⟨0, by omega, rfl, by rw [List.take_zero, Fr.num_nil]; rfl, rfl⟩
  case round =>
    obtain ⟨j, hj, rfl, rfl, rfl⟩ := hrel
    by_cases hlt : j < s.size
    · obtain ⟨N, hN⟩ : ∃ N, N = Fr.num (s.data.toList.take j) := ⟨_, rfl⟩
      rw [← hN]
      go_wp2_with fail
      go_roundw
      case rel => exact ⟨j + 1, by omega, by go_num, (by rw [or_shift _ _ (by have := num_lt4 s.data.toList j (by omega); omega), List.take_succ_eq_append_getElem (by rw [size_toList]; omega), Fr.num_snoc, strAt_eq, List.getD, List.getElem?_eq_getElem (by rw [size_toList]; omega)]; rfl), trivial⟩
      case measure => simp [intOf]; omega
    · obtain rfl : j = s.size := by omega
      go_wp2_with fail
      go_ret
      exact ⟨by rw [List.take_of_length_le (by rw [size_toList]; omega)]; rfl, rfl⟩
end Go.Proofs.YtbljhodnpddpiaaGreatDoor

/- The library's contracts of strings.Builder, as this program numbers them. -/
namespace Go.Proofs.YtbljhodnpddpiaaGreatDoor
open Go.Shelf
def lays169_ren : Go.Shelf.Ren := ⟨fun | 169 => 67 | n => n, fun | 70 => 119 | 9 => 9 | 0 => 0 | 72 => 121 | 37 => 59 | 127 => 150 | 3 => 3 | 5 => 5 | n => n, fun | n => n⟩
theorem lays169 : Go.Proofs.Lays.n169 Tryz.prog lays169_ren := {
  mixed := by kernel_rfl
  f169 := Tryz.func67.trans (congrArg some (by kernel_rfl))
  t0 := Tryz.underlying0
  a0 := Tryz.isAgg0
  z0 := Tryz.sizeOf0
  v0 := Tryz.zeroValue0
  t3 := Tryz.underlying3
  a3 := Tryz.isAgg3
  z3 := Tryz.sizeOf3
  v3 := Tryz.zeroValue3
  t9 := Tryz.underlying9
  a9 := Tryz.isAgg9
  z9 := Tryz.sizeOf9
  v9 := Tryz.zeroValue9
  t37 := Tryz.underlying59
  a37 := Tryz.isAgg59
  z37 := Tryz.sizeOf59
  v37 := Tryz.zeroValue59
  t70 := Tryz.underlying119
  a70 := Tryz.isAgg119
  z70 := Tryz.sizeOf119
  v70 := Tryz.zeroValue119
  t72 := Tryz.underlying121
  a72 := Tryz.isAgg121
  z72 := Tryz.sizeOf121
  v72 := Tryz.zeroValue121
  t127 := Tryz.underlying150
  a127 := Tryz.isAgg150
  z127 := Tryz.sizeOf150
  v127 := Tryz.zeroValue150 }
theorem Builder_Extra_169 : Builder.Extra Tryz.prog lays169_ren := {
  sizeBuilder := by kernel_rfl
  liesBuilder := by kernel_rfl
  t5 := Tryz.underlying5
  a5 := Tryz.isAgg5
  z5 := Tryz.sizeOf5
  v5 := Tryz.zeroValue5
  infoByte := by kernel_rfl
  cellsByte := by kernel_rfl
  sizeByte := by kernel_rfl
  neB5 := by decide }
open Go.RowKit in
theorem Builder_String_any (B b : Nat) (l : List UInt8) (w : World) (h : Lib.IsBuilder 121 5 B b (Lib.byteCells l) w) (hBw : B ≤ w.heap.size) :
    Calls Tryz.prog 67 #[.pointer (some ⟨b, 0, none⟩)] w fun e w' => e = .returned (.string ⟨l.toArray⟩) ∧ Below B w w' := Any.Builder_String_any lays169 Builder_Extra_169 B b l w h hBw
def lays165_ren : Go.Shelf.Ren := ⟨fun | 165 => 65 | 240 => 84 | 241 => 85 | 276 => 99 | 277 => 100 | n => n, fun | 70 => 119 | 3 => 3 | 0 => 0 | 4 => 4 | 9 => 9 | 20 => 20 | 72 => 121 | 37 => 59 | 164 => 131 | 5 => 5 | n => n, fun | n => n⟩
theorem lays165 : Go.Proofs.Lays.n165 Tryz.prog lays165_ren := {
  mixed := by kernel_rfl
  f165 := Tryz.func65.trans (congrArg some (by kernel_rfl))
  f240 := Tryz.func84.trans (congrArg some (by kernel_rfl))
  f241 := Tryz.func85.trans (congrArg some (by kernel_rfl))
  f276 := Tryz.func99.trans (congrArg some (by kernel_rfl))
  f277 := Tryz.func100.trans (congrArg some (by kernel_rfl))
  t0 := Tryz.underlying0
  a0 := Tryz.isAgg0
  z0 := Tryz.sizeOf0
  v0 := Tryz.zeroValue0
  t3 := Tryz.underlying3
  a3 := Tryz.isAgg3
  z3 := Tryz.sizeOf3
  v3 := Tryz.zeroValue3
  t4 := Tryz.underlying4
  a4 := Tryz.isAgg4
  z4 := Tryz.sizeOf4
  v4 := Tryz.zeroValue4
  t9 := Tryz.underlying9
  a9 := Tryz.isAgg9
  z9 := Tryz.sizeOf9
  v9 := Tryz.zeroValue9
  t20 := Tryz.underlying20
  a20 := Tryz.isAgg20
  z20 := Tryz.sizeOf20
  v20 := Tryz.zeroValue20
  t37 := Tryz.underlying59
  a37 := Tryz.isAgg59
  z37 := Tryz.sizeOf59
  v37 := Tryz.zeroValue59
  t70 := Tryz.underlying119
  a70 := Tryz.isAgg119
  z70 := Tryz.sizeOf119
  v70 := Tryz.zeroValue119
  t72 := Tryz.underlying121
  a72 := Tryz.isAgg121
  z72 := Tryz.sizeOf121
  v72 := Tryz.zeroValue121
  t164 := Tryz.underlying131
  a164 := Tryz.isAgg131
  z164 := Tryz.sizeOf131
  v164 := Tryz.zeroValue131 }
theorem Builder_Extra_165 : Builder.Extra Tryz.prog lays165_ren := {
  sizeBuilder := by kernel_rfl
  liesBuilder := by kernel_rfl
  t5 := Tryz.underlying5
  a5 := Tryz.isAgg5
  z5 := Tryz.sizeOf5
  v5 := Tryz.zeroValue5
  infoByte := by kernel_rfl
  cellsByte := by kernel_rfl
  sizeByte := by kernel_rfl
  neB5 := by decide }
open Go.RowKit in
theorem Builder_Grow_fresh (B b n : Nat) (w : World) (hB : B ≤ b) (hbk : w.heap[b]? = some (.cells #[.pointer none, .slice none 0 0] 121 (0, 0))) (hBw : B ≤ w.heap.size) (hn : n ≤ 281474976710656) :
    Calls Tryz.prog 65 #[.pointer (some ⟨b, 0, none⟩), .int .i64 n] w fun e w' => e = .returned (.tuple #[]) ∧ (Lib.BuilderAt 121 5 B b (.pointer (some ⟨b, 0, none⟩)) [] w' ∧ Below B w w') := Any.Builder_Grow_fresh lays165 Builder_Extra_165 B b n w hB hbk hBw hn
def laysM316_ren : Go.Shelf.Ren := ⟨fun | 316 => 115 | n => n, fun | 9 => 9 | 3 => 3 | 4 => 4 | 37 => 59 | 0 => 0 | 127 => 150 | 5 => 5 | n => n, fun | n => n⟩
theorem laysM316 : Go.Proofs.LaysM.n316 Tryz.prog laysM316_ren := {
  mixed := by kernel_rfl
  f316 := Tryz.func115.trans (congrArg some (by kernel_rfl))
  t0 := Tryz.underlying0
  a0 := Tryz.isAgg0
  z0 := Tryz.sizeOf0
  v0 := Tryz.zeroValue0
  t3 := Tryz.underlying3
  a3 := Tryz.isAgg3
  z3 := Tryz.sizeOf3
  v3 := Tryz.zeroValue3
  t4 := Tryz.underlying4
  a4 := Tryz.isAgg4
  z4 := Tryz.sizeOf4
  v4 := Tryz.zeroValue4
  t9 := Tryz.underlying9
  a9 := Tryz.isAgg9
  z9 := Tryz.sizeOf9
  v9 := Tryz.zeroValue9
  t37 := Tryz.underlying59
  a37 := Tryz.isAgg59
  z37 := Tryz.sizeOf59
  v37 := Tryz.zeroValue59
  t127 := Tryz.underlying150
  a127 := Tryz.isAgg150
  z127 := Tryz.sizeOf150
  v127 := Tryz.zeroValue150
  t5 := Tryz.underlying5
  a5 := Tryz.isAgg5
  z5 := Tryz.sizeOf5
  v5 := Tryz.zeroValue5
  i0 := by kernel_rfl
  i3 := by kernel_rfl
  i4 := by kernel_rfl
  i5 := by kernel_rfl
  i9 := by kernel_rfl
  i37 := by kernel_rfl
  i127 := by kernel_rfl }
open Go.RowKit in
theorem lClone_any (s : ByteArray) (w : World) (hlim : s.size ≤ 281474976710656) :
    Calls Tryz.prog 115 #[.string s] w fun e w' => e = .returned (.string s) ∧ Below w.heap.size w w' := Any.stringslite_Clone laysM316 s w hlim
open Go.RowKit in
theorem Clone_any (s : ByteArray) (w : World) (hlim : s.size ≤ 281474976710656) :
    Calls Tryz.prog 108 #[.string s] w fun e w' => e = .returned (.string s) ∧ Below w.heap.size w w' := by
  go_enter Tryz.func108, Tryz.ntmps108
  go_wp2_with (go_at_call 115; refine (lClone_any s _ hlim).mono ?_; rintro e w' ⟨rfl, hb⟩; have HB := Lib.hid hb; clear hb)
  go_ret
  exact ⟨rfl, HB.out⟩
open Go.RowKit in
theorem sizeBuilder : (Tryz.prog.info? 121).map (·.size) = some 2 := by kernel_rfl
open Go.RowKit in
set_option maxRecDepth 100000 in
set_option maxHeartbeats 1000000 in
theorem copyCheck_used (b : Nat) (w : World) (h0 : w.cell? ⟨b, 0, none⟩ = some (.pointer (some ⟨b, 0, none⟩))) :
    Calls Tryz.prog 84 #[.pointer (some ⟨b, 0, none⟩)] w fun e w' => e = .returned (.tuple #[]) ∧ w = w' := by
  obtain ⟨j, hj, _⟩ := Option.map_eq_some_iff.1 sizeBuilder
  go_enter Tryz.func84, Tryz.ntmps84
  go_wp2
  rw [Lib.run_neq_ptr_same w _ Tryz.underlying119 hj]
  go_wp2
  go_end0
  exact ⟨rfl, rfl⟩
/-- What was written into a builder that has grown. -/
def Built (b : Nat) (l : List UInt8) (w : World) : Prop := Lib.BuilderAt 121 5 b b (.pointer (some ⟨b, 0, none⟩)) (l.map u8v) w
open Go.RowKit in
set_option maxRecDepth 100000 in
set_option maxHeartbeats 2000000 in
theorem WriteString_any (b : Nat) (l : List UInt8) (s : ByteArray) (w : World) (h : Built b l w) (hlen : l.length + s.size ≤ 140737488355328) :
    Calls Tryz.prog 87 #[.pointer (some ⟨b, 0, none⟩), .string s] w fun e w' => e = .returned (.tuple #[.int .i64 s.size, .nilIface]) ∧ Built b (l ++ s.data.toList) w' ∧ Below b w w' := by
  obtain ⟨i0, hi, hz0, hz1, hz2⟩ := info_parts infoByte
  have h0 := h.cell0
  obtain ⟨hB, v, hbk, hown, hne⟩ := h
  have c1 : w.cell? ⟨b, 1, none⟩ = some v := by rw [Lib.cell_of_heap hbk]; rfl
  have hlt : b < w.heap.size := lt_of_heap hbk
  have hlm : (l.map u8v).length = l.length := List.length_map ..
  have HBK := Lib.hid hbk
  have HOWN := Lib.hid hown
  have HNE := Lib.hid hne
  clear hbk hown hne hB
  go_enter Tryz.func87, Tryz.ntmps87
  go_wp2_with (first | (go_at_call 84; refine (copyCheck_used b _ h0).mono ?_; rintro e w' ⟨rfl, rfl⟩) | (at_builtin; refine Lib.wpList_append_own_string _ rfl _ _ 59 9 rfl b 5 i0 Tryz.underlying59 Tryz.underlying9 hi hz0 hz1 hz2 _ _ _ rfl HOWN.out s rfl ?c3 ?c4 ?c5 ?_))
  case c3 => unfold maxLen; omega
  case c4 => omega
  case c5 => omega
  intro v' w2 hown' hgrow _
  have hb2 : w2.heap[b]? = some (.cells #[.pointer (some ⟨b, 0, none⟩), v] 121 (0, 0)) := by
    rw [hgrow.block b hlt (fun e => HNE.out e.symm)]; exact HBK.out
  have d1 : w2.cell? ⟨b, 1, none⟩ = some v := by rw [Lib.cell_of_heap hb2]; rfl
  have f1 : w2.frozen? ⟨b, 1, none⟩ = false := Lib.frozen_of_heap hb2 1
  obtain ⟨ao, n', cap, rfl⟩ : ∃ ao n' cap, v' = .slice ao n' cap := by
    rcases hown'.2 with ⟨hv, _⟩ | ⟨g, cap, cur, hv, _⟩
    · exact ⟨_, _, _, hv⟩
    · exact ⟨_, _, _, hv⟩
  have HO := Lib.hid hown'
  have HG := Lib.hid hgrow
  have HB2 := Lib.hid hb2
  clear hown' hgrow hb2
  go_wp2
  go_ret2
  have e : (l ++ s.data.toList).map u8v = l.map u8v ++ Lib.strCells s := by rw [List.map_append]; rfl
  refine ⟨rfl, ?_, ?_⟩
  · unfold Built
    rw [e]
    exact Lib.BuilderAt.put (T := 121) (e := 5) (Nat.le_refl _) HB2.out (bs' := l.map u8v ++ Lib.strCells s) (by simpa [Lib.strCells_length] using HO.out) (by decide)
  · exact ((Below.refl b w).grown HG.out (Nat.le_of_lt hlt) (fun k hk => (HOWN.out.lt k hk).1)).setCell (p := ⟨b, 1, none⟩) (Nat.le_refl _) _
open Go.RowKit in
theorem Grow_any (b n : Nat) (w : World) (hbk : w.heap[b]? = some (.cells #[.pointer none, .slice none 0 0] 121 (0, 0))) (hn : n ≤ 281474976710656) :
    Calls Tryz.prog 65 #[.pointer (some ⟨b, 0, none⟩), .int .i64 n] w fun e w' => e = .returned (.tuple #[]) ∧ Built b [] w' ∧ Below b w w' :=
  Builder_Grow_fresh b b n w (Nat.le_refl _) hbk (Nat.le_of_lt (lt_of_heap hbk)) hn
open Go.RowKit in
theorem String_any (b : Nat) (l : List UInt8) (w : World) (h : Built b l w) :
    Calls Tryz.prog 67 #[.pointer (some ⟨b, 0, none⟩)] w fun e w' => e = .returned (.string ⟨l.toArray⟩) ∧ Below b w w' :=
  Builder_String_any b b l w (Or.inr h) (Nat.le_of_lt h.lt)
end Go.Proofs.YtbljhodnpddpiaaGreatDoor
