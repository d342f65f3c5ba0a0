/- The plain mathematics of layer 9: a text sealed for a name, and what opens. No program is imported here. -/
import Derived.Test.YtdimkgidaioolaaSpec
import Derived.Test.YtdimkgidaioolaaFSpec
namespace Shd
def hash (l : List (List UInt8)) : List UInt8 := Dig.sum256 (Fr.list l)
theorem hash_eq (l : List (List UInt8)) : Dig.sum256 (Fr.list l) = hash l := rfl
theorem length_hash (l : List (List UInt8)) : (hash l).length = 32 := Dig.length_sum256 _
def headSum (nm : List UInt8) (L : Nat) : List UInt8 := hash [nm, Fr.be 4 L]
def head (nm : List UInt8) (L : Nat) : List UInt8 := Fr.be 4 L ++ headSum nm L
theorem length_head (nm : List UInt8) (L : Nat) : (head nm L).length = 36 := by rw [head, headSum, List.length_append, Fr.length_be, length_hash]
def sumOf (nm : List UInt8) (L i : Nat) (b : List UInt8) : List UInt8 := hash [nm, Fr.be 4 L, Fr.be 4 i, b]
theorem length_sumOf (nm : List UInt8) (L i : Nat) (b : List UInt8) : (sumOf nm L i b).length = 32 := length_hash _
def blk (nm : List UInt8) (L i : Nat) (b : List UInt8) : List UInt8 := b ++ sumOf nm L i b
/-- A piece of a text that is cut. -/
def piece (k : Nat) (t : List UInt8) (j : Nat) : List UInt8 := (t.drop (k * j)).take k
theorem length_piece (k : Nat) (t : List UInt8) (j : Nat) : (piece k t j).length = min k (t.length - k * j) := by rw [piece, List.length_take, List.length_drop]
/-- How many pieces. -/
def many (k n : Nat) : Nat := (n + (k - 1)) / k
def body (nm t : List UInt8) : Nat → List UInt8
  | 0 => []
  | j + 1 => body nm t j ++ blk nm t.length j (piece 200 t j)
theorem body_zero (nm t : List UInt8) : body nm t 0 = [] := rfl
theorem body_succ (nm t : List UInt8) (j : Nat) : body nm t (j + 1) = body nm t j ++ blk nm t.length j (piece 200 t j) := rfl
theorem length_body (nm t : List UInt8) : ∀ j, j ≤ many 200 t.length → (body nm t j).length = min (200 * j) t.length + 32 * j := by
  intro j
  induction j with
  | zero => intro _; simp [body_zero]
  | succ j ih =>
    intro h
    rw [body_succ, List.length_append, ih (by omega), blk, List.length_append, length_sumOf, length_piece]
    unfold many at h
    omega
/-- A sealed text. -/
def sld (nm t : List UInt8) : List UInt8 := head nm t.length ++ body nm t (many 200 t.length)
theorem seal_eq (nm t : List UInt8) : head nm t.length ++ body nm t (many 200 t.length) = sld nm t := rfl
/-- How many bytes it has. -/
def size (L : Nat) : Nat := 36 + L + 32 * many 200 L
theorem length_seal (nm t : List UInt8) : (sld nm t).length = size t.length := by
  rw [sld, List.length_append, length_head, length_body _ _ _ (Nat.le_refl _), size]
  unfold many; omega
/-- The block of a sealed text, and the sum behind it. -/
def oblk (s : List UInt8) (L i : Nat) : List UInt8 := (s.drop (36 + 232 * i)).take (min (L - 200 * i) 200)
def osum (s : List UInt8) (L i : Nat) : List UInt8 := (s.drop (36 + 232 * i + min (L - 200 * i) 200)).take 32
def Good (nm s : List UInt8) (L i : Nat) : Prop := osum s L i = sumOf nm L i (oblk s L i)
instance (nm s : List UInt8) (L i : Nat) : Decidable (Good nm s L i) := inferInstanceAs (Decidable (_ = _))
/-- What the first blocks tell. -/
def told (s : List UInt8) (L : Nat) : Nat → List UInt8
  | 0 => []
  | j + 1 => told s L j ++ oblk s L j
theorem told_zero (s : List UInt8) (L : Nat) : told s L 0 = [] := rfl
theorem told_succ (s : List UInt8) (L j : Nat) : told s L (j + 1) = told s L j ++ oblk s L j := rfl
/-- The length that a head says. -/
def lenOf (s : List UInt8) : Nat := Fr.num (s.take 4)
/-- Is its head right? -/
def Headed (nm s : List UInt8) : Prop := 36 ≤ s.length ∧ lenOf s ≤ 10000 ∧ s.length = size (lenOf s) ∧ s.take 36 = head nm (lenOf s)
instance (nm s : List UInt8) : Decidable (Headed nm s) := inferInstanceAs (Decidable (_ ∧ _ ∧ _ ∧ _))
/-- What opening comes to, once all blocks ahead of j are right: k are left. -/
def opnFrom (nm s : List UInt8) (L : Nat) : Nat → Nat → Except Nat (List UInt8)
  | 0, j => .ok (told s L j)
  | k + 1, j => if Good nm s L j then opnFrom nm s L k (j + 1) else .error (36 + 232 * j)
theorem opnFrom_zero (nm s : List UInt8) (L j : Nat) : opnFrom nm s L 0 j = .ok (told s L j) := rfl
theorem opnFrom_good {nm s : List UInt8} {L k j : Nat} (h : Good nm s L j) : opnFrom nm s L (k + 1) j = opnFrom nm s L k (j + 1) := by rw [opnFrom, if_pos h]
theorem opnFrom_bad {nm s : List UInt8} {L k j : Nat} (h : ¬ Good nm s L j) : opnFrom nm s L (k + 1) j = .error (36 + 232 * j) := by rw [opnFrom, if_neg h]
def opn (nm s : List UInt8) : Except Nat (List UInt8) := if Headed nm s then opnFrom nm s (lenOf s) (many 200 (lenOf s)) 0 else .error 0
theorem opn_headed {nm s : List UInt8} (h : Headed nm s) : opn nm s = opnFrom nm s (lenOf s) (many 200 (lenOf s)) 0 := by rw [opn, if_pos h]
theorem opn_not {nm s : List UInt8} (h : ¬ Headed nm s) : opn nm s = .error 0 := by rw [opn, if_neg h]

theorem take_piece (k : Nat) (t : List UInt8) (j : Nat) : t.take (k * (j + 1)) = t.take (k * j) ++ piece k t j := by
  rw [piece, Nat.mul_succ, List.take_add]
/-- The blocks of a sealed text are the text's own. -/
theorem seal_oblk (nm t : List UInt8) : ∀ j, j < many 200 t.length → oblk (sld nm t) t.length j = piece 200 t j ∧ osum (sld nm t) t.length j = sumOf nm t.length j (piece 200 t j) := by
  intro j hj
  have hm : j + 1 ≤ many 200 t.length := hj
  have hj2 := hj
  unfold many at hj2
  -- the body from block j on
  have hsplit : ∀ m, j + 1 ≤ m → m ≤ many 200 t.length → ∃ r, body nm t m = body nm t j ++ (blk nm t.length j (piece 200 t j) ++ r) := by
    intro m hm1
    induction m with
    | zero => omega
    | succ m ih =>
      intro hm2
      by_cases h : j + 1 ≤ m
      · obtain ⟨r, hr⟩ := ih h (by omega)
        exact ⟨r ++ blk nm t.length m (piece 200 t m), by rw [body_succ, hr]; simp [List.append_assoc]⟩
      · have hjm : m = j := by omega
        rw [hjm]
        exact ⟨[], by rw [body_succ]; simp⟩
  obtain ⟨r, hr⟩ := hsplit _ hm (Nat.le_refl _)
  have hlen : (head nm t.length ++ body nm t j).length = 36 + 232 * j := by
    rw [List.length_append, length_head, length_body _ _ _ (by omega)]; omega
  have hp : (piece 200 t j).length = min (t.length - 200 * j) 200 := by rw [length_piece]; omega
  have e : sld nm t = (head nm t.length ++ body nm t j) ++ (piece 200 t j ++ (sumOf nm t.length j (piece 200 t j) ++ r)) := by
    rw [sld, hr, blk]; simp [List.append_assoc]
  constructor
  · rw [oblk, e, ← hlen, List.drop_left, ← hp, List.take_left]
  · rw [osum, e, ← hlen, ← List.drop_drop, List.drop_left, ← hp, List.drop_left, ← length_sumOf nm t.length j (piece 200 t j), List.take_left]
theorem lenOf_seal (nm t : List UInt8) (h : t.length ≤ 10000) : lenOf (sld nm t) = t.length := by
  rw [lenOf, sld, head, List.append_assoc]
  have e : (Fr.be 4 t.length ++ (headSum nm t.length ++ body nm t (many 200 t.length))).take 4 = Fr.be 4 t.length := by
    have := List.take_left (l₁ := Fr.be 4 t.length) (l₂ := headSum nm t.length ++ body nm t (many 200 t.length))
    rwa [Fr.length_be] at this
  rw [e, Fr.num_be_lt (by omega)]
theorem headed_seal (nm t : List UInt8) (h : t.length ≤ 10000) : Headed nm (sld nm t) := by
  rw [Headed, lenOf_seal nm t h, length_seal]
  refine ⟨by unfold size; omega, h, rfl, ?_⟩
  have := List.take_left (l₁ := head nm t.length) (l₂ := body nm t (many 200 t.length))
  rwa [length_head, seal_eq] at this
theorem told_seal (nm t : List UInt8) : ∀ j, j ≤ many 200 t.length → told (sld nm t) t.length j = t.take (200 * j) := by
  intro j
  induction j with
  | zero => intro _; simp [told_zero]
  | succ j ih => intro h; rw [told_succ, ih (by omega), (seal_oblk nm t j (by omega)).1, take_piece]
theorem opnFrom_all {nm s : List UInt8} {L : Nat} : ∀ k j, (∀ i, j ≤ i → i < j + k → Good nm s L i) → opnFrom nm s L k j = .ok (told s L (j + k)) := by
  intro k
  induction k with
  | zero => intro j _; rw [opnFrom_zero, Nat.add_zero]
  | succ k ih =>
    intro j h
    rw [opnFrom_good (h j (Nat.le_refl _) (by omega)), ih (j + 1) (fun i h1 h2 => h i (by omega) (by omega))]
    congr 2; omega
/-- What was sealed is opened. -/
theorem opn_seal (nm t : List UInt8) (h : t.length ≤ 10000) : opn nm (sld nm t) = .ok t := by
  rw [opn_headed (headed_seal nm t h), lenOf_seal nm t h, opnFrom_all _ _ (fun i _ hi => ?_), Nat.zero_add, told_seal nm t _ (Nat.le_refl _), List.take_of_length_le (by unfold many; omega)]
  have := seal_oblk nm t i (by omega)
  rw [Good, this.1, this.2]
theorem opnFrom_ok {nm s t : List UInt8} {L : Nat} : ∀ k j, opnFrom nm s L k j = .ok t → t = told s L (j + k) ∧ ∀ i, j ≤ i → i < j + k → Good nm s L i := by
  intro k
  induction k with
  | zero => intro j h; rw [opnFrom_zero] at h; injection h with h; exact ⟨h.symm, fun i h1 h2 => by omega⟩
  | succ k ih =>
    intro j h
    by_cases hg : Good nm s L j
    · rw [opnFrom_good hg] at h
      obtain ⟨h1, h2⟩ := ih (j + 1) h
      refine ⟨by rw [h1]; congr 1; omega, fun i hi1 hi2 => ?_⟩
      by_cases e : i = j
      · rw [e]; exact hg
      · exact h2 i (by omega) (by omega)
    · rw [opnFrom_bad hg] at h; cases h
theorem length_oblk {s : List UInt8} {L i : Nat} (hs : s.length = size L) (hi : i < many 200 L) : (oblk s L i).length = min (L - 200 * i) 200 := by
  rw [oblk, List.length_take, List.length_drop, hs]
  unfold size many at *; omega
theorem length_told {s : List UInt8} {L : Nat} (hs : s.length = size L) : ∀ j, j ≤ many 200 L → (told s L j).length = min (200 * j) L := by
  intro j
  induction j with
  | zero => intro _; simp [told_zero]
  | succ j ih =>
    intro h
    rw [told_succ, List.length_append, ih (by omega), length_oblk hs (by omega)]
    unfold many at h; omega
theorem told_prefix (s : List UInt8) (L : Nat) : ∀ k j, ∃ r, told s L (j + k) = told s L j ++ r := by
  intro k
  induction k with
  | zero => intro j; exact ⟨[], by simp⟩
  | succ k ih =>
    intro j
    obtain ⟨r, hr⟩ := ih j
    exact ⟨r ++ oblk s L (j + k), by rw [← Nat.add_assoc, told_succ, hr, List.append_assoc]⟩
theorem piece_told {s : List UInt8} {L : Nat} (hs : s.length = size L) {j : Nat} (hj : j < many 200 L) : piece 200 (told s L (many 200 L)) j = oblk s L j := by
  obtain ⟨r, hr⟩ := told_prefix s L (many 200 L - (j + 1)) (j + 1)
  rw [show j + 1 + (many 200 L - (j + 1)) = many 200 L by omega] at hr
  have h1 := length_told hs j (by omega)
  have h2 := length_oblk hs hj
  have hj2 := hj
  unfold many at hj2
  have e1 : (told s L j).length = 200 * j := by omega
  rw [piece, hr, told_succ, List.append_assoc, ← e1, List.drop_left]
  by_cases hb : 200 * j + 200 ≤ L
  · have e2 : (oblk s L j).length = 200 := by omega
    have := List.take_left (l₁ := oblk s L j) (l₂ := r)
    rwa [e2] at this
  · have hr0 : r = [] := by
      have h3 := length_told hs (many 200 L) (Nat.le_refl _)
      rw [hr, told_succ, List.length_append, List.length_append, h1, h2] at h3
      have : r.length = 0 := by unfold many at h3; omega
      exact List.length_eq_zero_iff.1 this
    rw [hr0, List.append_nil, List.take_of_length_le (by omega)]
/-- A block and its sum, as they lie. -/
theorem drop_block (s : List UInt8) (L j : Nat) : s.take (36 + 232 * j + (min (L - 200 * j) 200 + 32)) = s.take (36 + 232 * j) ++ (oblk s L j ++ osum s L j) := by
  have e1 : s.take (36 + 232 * j + (min (L - 200 * j) 200 + 32)) = s.take (36 + 232 * j) ++ (s.drop (36 + 232 * j)).take (min (L - 200 * j) 200 + 32) := List.take_add
  have e2 : (s.drop (36 + 232 * j)).take (min (L - 200 * j) 200 + 32) = (s.drop (36 + 232 * j)).take (min (L - 200 * j) 200) ++ ((s.drop (36 + 232 * j)).drop (min (L - 200 * j) 200)).take 32 := List.take_add
  rw [e1, e2, oblk, osum, List.drop_drop]
/-- What opens is a sealed text. -/
theorem seal_opn {nm s t : List UInt8} (h : opn nm s = .ok t) : sld nm t = s ∧ t.length ≤ 10000 := by
  by_cases hh : Headed nm s
  · rw [opn_headed hh] at h
    obtain ⟨h1, h2, h3, h4⟩ := hh
    obtain ⟨L, hL⟩ : ∃ L, L = lenOf s := ⟨_, rfl⟩
    rw [← hL] at h h2 h3 h4
    obtain ⟨ht, hg⟩ := opnFrom_ok _ _ h
    rw [Nat.zero_add] at ht hg
    have htl : t.length = L := by rw [ht, length_told h3 _ (Nat.le_refl _)]; unfold many; omega
    refine ⟨?_, by omega⟩
    have key : ∀ j, j ≤ many 200 L → head nm L ++ body nm t j = s.take (min (36 + 232 * j) s.length) := by
      intro j
      induction j with
      | zero => intro _; rw [body_zero, List.append_nil, ← h4]; congr 1; omega
      | succ j ih =>
        intro hj
        have hjl : j < many 200 L := by omega
        have e1 : min (36 + 232 * j) s.length = 36 + 232 * j := by rw [h3]; unfold size many at *; omega
        have e2 : min (36 + 232 * (j + 1)) s.length = 36 + 232 * j + (min (L - 200 * j) 200 + 32) := by rw [h3]; unfold size many at *; omega
        have hG : osum s L j = sumOf nm L j (oblk s L j) := hg j (by omega) (by omega)
        have hpt : piece 200 t j = oblk s L j := by rw [ht]; exact piece_told h3 hjl
        rw [body_succ, ← List.append_assoc, ih (by omega), e1, e2, drop_block s L j, hpt, blk, htl, hG]
    rw [← seal_eq, htl, key _ (Nat.le_refl _), List.take_of_length_le]
    rw [h3]; unfold size many; omega
  · rw [opn_not hh] at h; cases h
/-- A byte more is too much. -/
theorem opn_longer (nm t : List UInt8) (x : UInt8) (h : t.length ≤ 10000) : opn nm (sld nm t ++ [x]) = .error 0 := by
  refine opn_not fun hh => ?_
  obtain ⟨_, _, h3, _⟩ := hh
  have e : lenOf (sld nm t ++ [x]) = t.length := by
    rw [← lenOf_seal nm t h, lenOf, lenOf, List.take_append_of_le_length (by rw [length_seal]; unfold size; omega)]
  rw [e, List.length_append, length_seal] at h3
  simp at h3
theorem many_blocks {s : List UInt8} {L : Nat} (hs : s.length = size L) : many 232 (s.drop 36).length = many 200 L := by
  rw [List.length_drop, hs]; unfold size many; omega
theorem piece_split {s : List UInt8} {L : Nat} (hs : s.length = size L) {j : Nat} (hj : j < many 200 L) : piece 232 (s.drop 36) j = oblk s L j ++ osum s L j ∧ (oblk s L j).length = min (L - 200 * j) 200 ∧ (osum s L j).length = 32 := by
  have hd : (s.drop (36 + 232 * j)).length = 36 + L + 32 * many 200 L - (36 + 232 * j) := by rw [List.length_drop, hs, size]
  have hj2 := hj
  unfold many at hj2 hd
  refine ⟨?_, length_oblk hs hj, ?_⟩
  · have e : (s.drop (36 + 232 * j)).take 232 = (s.drop (36 + 232 * j)).take (min (L - 200 * j) 200 + 32) := by
      by_cases hb : 200 * j + 200 ≤ L
      · rw [show min (L - 200 * j) 200 + 32 = 232 by omega]
      · rw [List.take_of_length_le (by omega), List.take_of_length_le (by omega)]
    have e2 : (s.drop (36 + 232 * j)).take (min (L - 200 * j) 200 + 32) = (s.drop (36 + 232 * j)).take (min (L - 200 * j) 200) ++ ((s.drop (36 + 232 * j)).drop (min (L - 200 * j) 200)).take 32 := List.take_add
    rw [piece, List.drop_drop, e, e2, oblk, osum, List.drop_drop]
  · rw [osum, List.length_take, List.length_drop, hs, size]
    unfold many; omega
theorem told_le {s : List UInt8} {L : Nat} (hs : s.length = size L) {j : Nat} (hj : j ≤ many 200 L) : (told s L j).length ≤ L := by rw [length_told hs j hj]; omega
theorem opnFrom_step {nm s : List UInt8} {L : Nat} : ∀ k j, (∀ i, j ≤ i → i < j + k → Good nm s L i) → ∀ m, opnFrom nm s L (k + m) j = opnFrom nm s L m (j + k) := by
  intro k
  induction k with
  | zero => intro j _ m; rw [Nat.zero_add, Nat.add_zero]
  | succ k ih =>
    intro j h m
    rw [show k + 1 + m = (k + m) + 1 by omega, opnFrom_good (h j (Nat.le_refl _) (by omega)), ih (j + 1) (fun i h1 h2 => h i (by omega) (by omega))]
    congr 1; omega
/-- The first block that is not right. -/
theorem opn_rot {nm s : List UInt8} (hh : Headed nm s) {j : Nat} (hj : j < many 200 (lenOf s)) (hg : ∀ i, i < j → Good nm s (lenOf s) i) (hb : ¬ Good nm s (lenOf s) j) : opn nm s = .error (36 + 232 * j) := by
  rw [opn_headed hh, show many 200 (lenOf s) = j + ((many 200 (lenOf s) - j - 1) + 1) by omega, opnFrom_step j 0 (fun i _ h => hg i (by omega)), Nat.zero_add, opnFrom_bad hb]
theorem opn_all {nm s : List UInt8} (hh : Headed nm s) (hg : ∀ i, i < many 200 (lenOf s) → Good nm s (lenOf s) i) : opn nm s = .ok (told s (lenOf s) (many 200 (lenOf s))) := by
  rw [opn_headed hh, opnFrom_all _ _ (fun i _ h => hg i (by omega)), Nat.zero_add]
theorem size_le {L : Nat} (h : L ≤ 10000) : size L ≤ 11636 := by unfold size many; omega
attribute [irreducible] hash headSum head sumOf blk piece many body sld size oblk osum told opnFrom opn
end Shd
