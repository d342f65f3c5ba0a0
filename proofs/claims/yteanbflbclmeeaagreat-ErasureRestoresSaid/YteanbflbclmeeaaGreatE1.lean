/- Erasure: the matrices; what is small; a text cut; texts laid together; the shards that belong to others; which pieces are there. -/
import Derived.Test.YteanbflbclmeeaaGreatMApply
import Derived.Test.YteanbflbclmeeaaGreatMCau
import Derived.Test.YteanbflbclmeeaaGreatMMath
import Derived.Test.YteanbflbclmeeaaGreatMTX
import Derived.RegionTactic
import Derived.Lib.AppendZerosOnto
import Derived.Laws.AppendOwnNone
/-! EMath -/
namespace Go.Proofs.YteanbflbclmeeaaGreat
open Go.RowKit

/-- All rows: Identity(k) with Cauchy under it. -/
def encM (k : Nat) : Mat := underM k dl (cauM k)
theorem encM_lo {k i : Nat} (X : Mat) (j : Nat) (h : i < k) : mm k (encM k) X i j = X i j :=
  mm_dl_left X h fun l _ => by unfold encM underM; rw [if_pos h]
theorem encM_hi {k i : Nat} (X : Mat) (j : Nat) (h : k ≤ i) : mm k (encM k) X i j = mm k (cauM k) X (i - k) j := by
  unfold mm encM underM
  exact sumX_congr fun l _ => by rw [if_neg (by omega)]
theorem enc_full (k n : Nat) (p : Nat → Nat) (hn : n ≤ 256) (hkn : k ≤ n) (hp : ∀ r, r < k → p r < n) (hinj : ∀ r s, r < k → s < k → p r = p s → r = s) : rk k k (pickM (encM k) p) = k := by
  refine rows_full k n _ p by8 (fun a b ha hb e => ?_) hkn hp hinj (fun r j hr hj hpr => ?_) (fun r j hr hj hpr => ?_)
  · have := congrArg UInt8.toNat e
    rw [by8_nat (by omega), by8_nat (by omega)] at this; exact this
  · unfold pickM encM underM; rw [if_pos hpr]
  · have hlt := hp r hr
    show encM k (p r) j = inv (by8 (p r) ^^^ by8 j)
    unfold encM underM
    rw [if_neg (by omega), cauM_eq, xr_eq, show k + (p r - k) = p r by omega]
/-- What comes of solving k rows. -/
theorem solve {k : Nat} {P X Y : Mat} (hk : rk k k P = k) {j : Nat} (hY : ∀ r, r < k → Y r j = mm k P X r j) {i : Nat} (hi : i < k) : mm k (invM k P) Y i j = X i j := by
  rw [mm_congr (A' := invM k P) (B' := mm k P X) (fun _ _ => rfl) (fun r hr => hY r hr), ← mm_assoc]
  exact mm_dl_left X hi fun l hl => (inv_pair hk).qp i l hi hl
/-- The other way round: rows that were solved give what they were solved of. -/
theorem unsolve {k : Nat} {P Y : Mat} (hk : rk k k P = k) {j i : Nat} (hi : i < k) : mm k P (mm k (invM k P) Y) i j = Y i j := by
  rw [← mm_assoc]
  exact mm_dl_left Y hi fun l hl => (inv_pair hk).pq i l hi hl
/-- A text's rows: so many bytes each. -/
def cutM (s : Nat) (l : Nat → UInt8) : Mat := fun i j => l (i * s + j)
/-- The shard of a number. -/
@[irreducible] def shT (k s : Nat) (X : Mat) (i : Nat) : ByteArray := txt (mm k (encM k) X i) s
theorem shT_eq (k s : Nat) (X : Mat) (i : Nat) : shT k s X i = txt (mm k (encM k) X i) s := by unfold shT; rfl
theorem shT_size (k s : Nat) (X : Mat) (i : Nat) : (shT k s X i).size = s := by rw [shT_eq, txt_size]
theorem shT_at {k s : Nat} (X : Mat) (i : Nat) {j : Nat} (hj : j < s) : strAt (shT k s X i) j = mm k (encM k) X i j := by rw [shT_eq, txt_at _ _ _ hj]
theorem shT_lo {k s i : Nat} (X : Mat) (h : i < k) : shT k s X i = txt (X i) s := by rw [shT_eq]; exact txt_congr fun j _ => encM_lo X j h
theorem shT_hi {k s i : Nat} (X : Mat) (h : k ≤ i) : shT k s X i = txt (mm k (cauM k) X (i - k)) s := by rw [shT_eq]; exact txt_congr fun j _ => encM_hi X j h
theorem shT_congr {k s : Nat} {X Y : Mat} (h : ∀ i j, i < k → j < s → X i j = Y i j) (i : Nat) : shT k s X i = shT k s Y i := by
  rw [shT_eq, shT_eq]
  exact txt_congr fun j hj => mm_congr (fun _ _ => rfl) (fun l hl => h l j hl hj)
theorem txt_inj {f h : Nat → UInt8} {s : Nat} (e : txt f s = txt h s) {j : Nat} (hj : j < s) : f j = h j := by
  have := congrArg (fun x => strAt x j) e
  simp only [txt_at _ _ _ hj] at this; exact this
/-- A shard's size. -/
@[irreducible] def szN (k L : Nat) : Nat := L / k + min 1 (L % k)
theorem szN_eq (k L : Nat) : szN k L = L / k + min 1 (L % k) := by unfold szN; rfl
theorem szN_ge {k : Nat} (hk : 1 ≤ k) (L : Nat) : L ≤ k * szN k L := by
  rw [szN_eq]
  have h1 := Nat.div_add_mod L k
  have h2 := Nat.mod_lt L (show 0 < k by omega)
  rw [Nat.mul_add]
  by_cases h : L % k = 0
  · omega
  · rw [show min 1 (L % k) = 1 by omega]; omega
theorem szN_le {k : Nat} (_ : 1 ≤ k) (L : Nat) : szN k L ≤ L := by
  rw [szN_eq]
  have h1 := Nat.div_add_mod L k
  have h2 : L / k ≤ k * (L / k) := Nat.le_mul_of_pos_left _ (by omega)
  omega
theorem szN_pos {k : Nat} (hk : 1 ≤ k) {L : Nat} (hL : 1 ≤ L) : 1 ≤ szN k L := by
  have := szN_ge hk L
  rcases Nat.eq_zero_or_pos (szN k L) with h | h
  · rw [h] at this; omega
  · exact h
theorem szN_small {k : Nat} (hk : 1 ≤ k) (L : Nat) : k * szN k L < L + k := by
  rw [szN_eq, Nat.mul_add]
  have h1 := Nat.div_add_mod L k
  have h2 := Nat.mod_lt L (show 0 < k by omega)
  by_cases h : L % k = 0
  · rw [h, show min 1 0 = 0 from rfl, Nat.mul_zero]; omega
  · rw [show min 1 (L % k) = 1 by omega]; omega
/-- The rows, one behind the other. -/
theorem rows_flat (X : Mat) (s : Nat) : ∀ k, (List.range k).flatMap (fun i => textOf (X i) s) = flat X k s := by
  intro k
  induction k with
  | zero => simp [flat]
  | succ k ih =>
    rw [List.range_succ, List.flatMap_append, ih, List.flatMap_cons, List.flatMap_nil, List.append_nil]
    have := flat_row X (c := s) (show k < k + 1 by omega)
    rw [this]
    unfold ahead behind
    rw [List.drop_of_length_le (by rw [length_flat]; exact Nat.le_refl _), List.append_nil]
    congr 1
    apply List.ext_getElem?
    intro j
    have e1 : (k + 1) * s = k * s + s := Nat.succ_mul k s
    by_cases hj : j < k * s
    · rw [flat_some _ _ _ _ hj, List.getElem?_take, if_pos hj, flat_some _ _ _ _ (by omega)]
    · rw [List.getElem?_eq_none (by rw [length_flat]; omega), List.getElem?_eq_none (by rw [List.length_take, length_flat]; omega)]
theorem flat_cut (s k : Nat) (l : Nat → UInt8) : flat (cutM s l) k s = (List.range (k * s)).map l := by
  unfold flat cutM
  refine List.map_congr_left fun j _ => ?_
  rw [Nat.mul_comm, Nat.div_add_mod]
/-- What is cut and laid together again. -/
theorem cut_take (s k : Nat) (x : ByteArray) (h : x.size ≤ k * s) : (flat (cutM s (strAt x)) k s).take x.size = x.data.toList := by
  rw [flat_cut]
  apply List.ext_getElem?
  intro j
  by_cases hj : j < x.size
  · rw [List.getElem?_take, if_pos hj, List.getElem?_map, List.getElem?_range (by omega), Option.map_some, strAt_eq, List.getD, List.getElem?_eq_getElem (by rw [size_toList]; exact hj)]; rfl
  · rw [List.getElem?_take, if_neg hj, List.getElem?_eq_none (by rw [size_toList]; omega)]
/-- One byte of one shard is another one. -/
theorem one_other {k n a : Nat} (hk : k ≤ 255) (hn : n < k) (X : Mat) (t : UInt8) (ht : t ≠ 0) : mm k (cauM k) (fun i j => if i = n ∧ j = a then X i j ^^^ t else X i j) 0 a ≠ mm k (cauM k) X 0 a := by
  intro e
  have h1 : mm k (cauM k) (fun i j => if i = n ∧ j = a then X i j ^^^ t else X i j) 0 a = mm k (cauM k) X 0 a ^^^ tm (cauM k 0 n) t := by
    unfold mm
    rw [sumX_congr (g := fun l => tm (cauM k 0 l) (X l a) ^^^ tm (dl n l) (tm (cauM k 0 l) t)) (fun l _ => by
      show tm (cauM k 0 l) (if l = n ∧ a = a then X l a ^^^ t else X l a) = _
      by_cases h : l = n
      · rw [if_pos ⟨h, rfl⟩, tm_xor, h, dl_same, one_tm]
      · rw [if_neg (fun e => h e.1), dl_ne (fun e => h e.symm), zero_tm, xor_zero]), sumX_xor, sumX_dl k n (fun l => tm (cauM k 0 l) t) hn]
  rw [h1] at e
  have h2 : tm (cauM k 0 n) t = 0 := by
    have := congrArg (fun x => mm k (cauM k) X 0 a ^^^ x) e
    simpa [xor_same, ← UInt8.xor_assoc] using this
  rcases (tm_eq_zero _ _).1 h2 with h | h
  · rw [cauM_eq, Nat.add_zero, xr_eq] at h
    refine inv_ne (xor_ne0 fun e => ?_) h
    have := congrArg UInt8.toNat e
    rw [by8_nat (by omega), by8_nat (by omega)] at this; omega
  · exact ht h
end Go.Proofs.YteanbflbclmeeaaGreat
/-! EBase -/
namespace Go.Proofs.YteanbflbclmeeaaGreat
open Go.RowKit

@[irreducible] def mayE (k m L : Int) : Bool := decide (1 ≤ k ∧ 0 ≤ m ∧ m ≤ 255 - k ∧ 0 ≤ L)
theorem mayE_eq (k m L : Int) : mayE k m L = decide (1 ≤ k ∧ 0 ≤ m ∧ m ≤ 255 - k ∧ 0 ≤ L) := by unfold mayE; rfl
theorem mayE_any (k m L : Int) (hk : k ≤ 9223372036854775807) (w : World) : Calls Tryz.prog 16 #[.int .i64 k, .int .i64 m, .int .i64 L] w fun e w' => e = .returned (.bool (mayE k m L)) ∧ w = w' := by
  have HM := Lib.hid (mayE_eq k m L)
  by_cases h1 : 1 ≤ k
  · have e1 : wrap64 (255 - k) = 255 - k := by unfold wrap64; omega
    go_enter Tryz.func16, Tryz.ntmps16
    go_wp2_with fail
    all_goals
      go_ret
      refine ⟨ret_bool ?_, rfl⟩
      rw [HM.out, Bool.eq_iff_iff]
      simp
      try omega
  · go_enter Tryz.func16, Tryz.ntmps16
    go_wp2_with fail
    all_goals
      go_ret
      refine ⟨ret_bool ?_, rfl⟩
      rw [HM.out, Bool.eq_iff_iff]
      simp
      try omega
theorem eFault_any (c : Int) (w : World) : Calls Tryz.prog 17 #[.int .i64 c] w fun e w' => e = .returned (.iface 69 (.pointer (some ⟨w.heap.size, 0, none⟩))) ∧ FaultAt w.heap.size c 0 w' ∧ Below w.heap.size w w' := by
  go_enter Tryz.func17, Tryz.ntmps17
  go_wp2_with fail
  go_ret
  exact ⟨rfl, heap_alloc_new _ _, (Below.refl _ _).alloc (Nat.le_refl _) _⟩
set_option maxHeartbeats 1000000 in
theorem eSz_any (k L : Nat) (hk : 1 ≤ k) (hL : (L : Int) ≤ 9223372036854775807) (w : World) : Calls Tryz.prog 20 #[.int .i64 k, .int .i64 L] w fun e w' => e = .returned (.int .i64 (szN k L : Nat)) ∧ Below w.heap.size w w' := by
  obtain ⟨q, hq⟩ : ∃ q, q = L / k := ⟨_, rfl⟩
  obtain ⟨r, hr⟩ : ∃ r, r = L % k := ⟨_, rfl⟩
  obtain ⟨s, hs⟩ : ∃ s, s = szN k L := ⟨_, rfl⟩
  have hsle : s ≤ L := by rw [hs]; exact szN_le hk L
  have ed : (L : Int).tdiv (k : Int) = (q : Int) := by rw [Int.tdiv_eq_ediv_of_nonneg (by omega), hq]; simp
  have em : (L : Int).tmod (k : Int) = (r : Int) := by rw [Int.tmod_eq_emod_of_nonneg (by omega), hr]; simp
  have hk0 : ¬ (k : Int) = 0 := by omega
  have hsum : s = q + min 1 r := by rw [hs, szN_eq, hq, hr]
  rw [← hs]
  clear hs hq hr
  by_cases h0 : r = 0
  · subst h0
    have h2 : s = q := by omega
    subst h2
    clear hsum
    go_enter Tryz.func20, Tryz.ntmps20
    go_wp2_with fail
    go_region
    all_goals
      go_wp2_with fail
      go_ret
      exact ⟨rfl, by first | exact (Below.refl _ _).drew | exact below_drewN (Below.refl _ _) _⟩
  · have h2 : s = q + 1 := by omega
    subst h2
    have h1 : 1 ≤ r := by omega
    clear hsum h0
    go_enter Tryz.func20, Tryz.ntmps20
    go_wp2_with fail
    go_region
    all_goals
      go_wp2_with fail
      go_ret
      refine ⟨?_, by first | exact (Below.refl _ _).drew | exact below_drewN (Below.refl _ _) _⟩
      first | rfl | (simp; done) | (go_num)
end Go.Proofs.YteanbflbclmeeaaGreat
/-! EHave -/
namespace Go.Proofs.YteanbflbclmeeaaGreat
open Go.RowKit

set_option maxHeartbeats 1000000 in
theorem allHave_yes (s n cap : Nat) (a0 : Option Addr) (f : Nat → ByteArray) (hn : n ≤ 1000000) (hm : ∀ j, j < n → (f j).size = s) (w : World) (h : TX a0 n f w) :
    Calls Tryz.prog 19 #[.int .i64 s, .slice a0 n cap] w fun e w' => e = .returned (.bool true) ∧ w = w' := by
  have H := Lib.hid h
  have HM := Lib.hid hm
  clear h hm
  go_enter Tryz.func19, Tryz.ntmps19
  go_wp2_with fail
  go_loopw [8] (fun iv wr => ∃ i : Nat, i ≤ n ∧ iv = .int .i64 i ∧ wr = w) (fun iv _ => n - (intOf iv).toNat)
  case atStart => exact ⟨0, by omega, rfl, rfl⟩
  case round =>
    obtain ⟨i, hi, rfl, rfl⟩ := hrel
    by_cases hlt : i < n
    · obtain ⟨b, o, rfl, hbl, ht⟩ := H.out (by omega)
      obtain ⟨x, hx⟩ : ∃ x, x = f i := ⟨_, rfl⟩
      have c0 : wr.cell? ⟨b, o + i, none⟩ = some (.string x) := by rw [hx]; exact ht i hlt
      have hb := nat_eq_B (i := x.size) (p := s) (by rw [hx, HM.out i hlt])
      clear hx ht
      go_wp2_with fail
      go_roundw
      case rel => exact ⟨i + 1, by omega, by go_num, trivial⟩
      case measure => simp [intOf]; omega
    · obtain rfl : i = n := by omega
      go_wp2_with fail
      go_ret
      exact ⟨rfl, rfl⟩
set_option maxHeartbeats 1000000 in
theorem allHave_no (s n cap k : Nat) (a0 : Option Addr) (f : Nat → ByteArray) (hn : n ≤ 1000000) (hk : k < n) (hne : (f k).size ≠ s) (hm : ∀ j, j < k → (f j).size = s) (w : World) (h : TX a0 n f w) :
    Calls Tryz.prog 19 #[.int .i64 s, .slice a0 n cap] w fun e w' => e = .returned (.bool false) ∧ w = w' := by
  have H := Lib.hid h
  have HM := Lib.hid hm
  have HNE := Lib.hid hne
  clear h hm hne
  go_enter Tryz.func19, Tryz.ntmps19
  go_wp2_with fail
  go_loopw [8] (fun iv wr => ∃ i : Nat, i ≤ k ∧ iv = .int .i64 i ∧ wr = w) (fun iv _ => n - (intOf iv).toNat)
  case atStart => exact ⟨0, by omega, rfl, rfl⟩
  case round =>
    obtain ⟨i, hi, rfl, rfl⟩ := hrel
    have hlt : i < n := by omega
    obtain ⟨b, o, rfl, hbl, ht⟩ := H.out (by omega)
    obtain ⟨x, hx⟩ : ∃ x, x = f i := ⟨_, rfl⟩
    have c0 : wr.cell? ⟨b, o + i, none⟩ = some (.string x) := by rw [hx]; exact ht i hlt
    by_cases hik : i = k
    · have hb := nat_ne_B (i := x.size) (p := s) (by rw [hx, hik]; exact HNE.out)
      clear hx hik ht
      go_wp2_with fail
      go_ret
      exact ⟨rfl, rfl⟩
    · have hb := nat_eq_B (i := x.size) (p := s) (by rw [hx, HM.out i (by omega)])
      clear hx ht
      go_wp2_with fail
      go_roundw
      case rel => exact ⟨i + 1, by omega, by go_num, trivial⟩
      case measure => simp [intOf]; omega
/-- Whether they have, whatever they are. -/
def allB (s n : Nat) (f : Nat → ByteArray) : Bool := (List.range n).all fun j => (f j).size == s
theorem allB_yes {s n : Nat} {f : Nat → ByteArray} : allB s n f = true ↔ ∀ j, j < n → (f j).size = s := by
  unfold allB; simp [List.all_eq_true]
theorem allHave_any (s n cap : Nat) (a0 : Option Addr) (f : Nat → ByteArray) (hn : n ≤ 1000000) (w : World) (h : TX a0 n f w) :
    Calls Tryz.prog 19 #[.int .i64 s, .slice a0 n cap] w fun e w' => e = .returned (.bool (allB s n f)) ∧ w = w' := by
  by_cases ha : allB s n f = true
  · rw [ha]; exact allHave_yes s n cap a0 f hn (allB_yes.1 ha) w h
  · have hf : allB s n f = false := by simpa using ha
    have hex : ∃ k, k < n ∧ (f k).size ≠ s := by
      apply Classical.byContradiction
      intro hno
      exact ha (allB_yes.2 fun j hj => Classical.byContradiction fun e => hno ⟨j, hj, e⟩)
    obtain ⟨k', hk1, hk2⟩ := hex
    obtain ⟨k, hk0, hk3, hk4⟩ := first_of (p := fun k => (f k).size ≠ s) k' hk2
    rw [hf]
    exact allHave_no s n cap k a0 f hn (by omega) hk3 (fun j hj => Classical.byContradiction fun e => hk4 j hj e) w h
end Go.Proofs.YteanbflbclmeeaaGreat
/-! ECut -/

namespace Go.Proofs.YteanbflbclmeeaaGreat
open Go.RowKit

theorem laid_text (t : ByteArray) (n : Nat) (h : t.size ≤ n) : laid (List.replicate n (Value.int .u8 0)) 0 (strCells t t.size) = (textOf (strAt t) n).map u8v := by
  have hs : strCells t t.size = t.data.toList.map u8v := by rw [strCells, List.take_of_length_le (by rw [size_toList]; omega)]
  have hl : (t.data.toList.map u8v).length = t.size := by rw [List.length_map, size_toList]
  rw [hs]
  apply List.ext_getElem?
  intro j
  have hr : (((textOf (strAt t) n).map u8v)[j]?) = if j < n then some (u8v (strAt t j)) else none := by
    rw [List.getElem?_map]
    by_cases hj : j < n
    · rw [if_pos hj, textOf_get _ _ _ hj]; rfl
    · rw [if_neg hj, List.getElem?_eq_none (by rw [length_textOf]; omega)]; rfl
  rw [hr]
  by_cases hj : j < t.size
  · have := laid_get_in (t.data.toList.map u8v) 0 (List.replicate n (Value.int .u8 0)) j (by rw [hl, List.length_replicate]; omega) (by rw [hl]; exact hj)
    rw [Nat.zero_add] at this
    rw [this, if_pos (by omega), List.getElem?_map, strAt_eq, List.getD, List.getElem?_eq_getElem (by rw [size_toList]; exact hj)]; rfl
  · rw [laid_get_out _ _ _ _ (.inr (by rw [hl]; omega))]
    by_cases hn : j < n
    · rw [if_pos hn, List.getElem?_replicate, if_pos hn, strAt_eq, List.getD, List.getElem?_eq_none (by rw [size_toList]; omega)]; rfl
    · rw [if_neg hn, List.getElem?_eq_none (by rw [List.length_replicate]; omega)]
theorem wpList_copy_front {P : Program} {w : World} {ops : Array Oper} {rest : List Oper} {o : Oper} {a : Act} {Q : Exit → Act → World → Prop} (hgd : o.guard = none) (d s : Operand) (dT sT : TypeId)
    (ho : o.op = .call { callee := .builtin .copy, args := #[d, s], argTypes := #[dT, sT] }) (elem : TypeId) (hu : P.underlying dT = some (.slice elem)) (hsz : (P.info? elem).map (·.size) = some 1)
    (b n : Nat) (t : ByteArray) (hd : a.eval d = .slice (some ⟨b, 0, none⟩) n n) (hs : a.eval s = .string t) (ht : t.size ≤ n) (T : TypeId) (hg : w.heap[b]? = some (.cells (List.replicate n (Value.int .u8 0)).toArray T (0, 0)))
    (h : ∀ w', Hid (w'.heap[b]? = some (.cells ((textOf (strAt t) n).map u8v).toArray T (0, 0))) → Hid (Kept w.heap.size [b] w w') → Hid (w'.heap.size = w.heap.size) → wpList P ops Q rest (a.put o.dst (goInt t.size)) w') : wpList P ops Q (o :: rest) a w := by
  have hm : Nat.min t.size n = t.size := Nat.min_eq_left ht
  refine wpList_copy_str hgd d s dT sT ho elem hu hsz b 0 n n t hd hs (by rw [hm]; exact there_of_list hg (by simp; omega)) ?_
  rw [hm]
  refine h _ (Lib.hid ?_) (Lib.hid (kept_setCells _ _ _ _)) (Lib.hid (setCells_size _ _ _))
  have := setCells_list (strCells t t.size) 0 _ w hg
  rw [laid_text t n ht] at this
  exact this
/-- What stands while a text is cut. -/
structure CutS (g1 g2 N k s : Nat) (l : Nat → UInt8) (i : Nat) (w0 w : World) : Prop where
  bytes : w.heap[g1]? = some (.cells ((textOf l N).map u8v).toArray 5 (0, 0))
  strs : Strs g2 k (fun i => txt (cutM s l i) s) i w
  old : Below w0.heap.size w0 w
  ne : g1 ≠ g2
  lo1 : w0.heap.size ≤ g1
  lo2 : w0.heap.size ≤ g2
theorem CutS.set {g1 g2 N k s : Nat} {l : Nat → UInt8} {i : Nat} {w0 w : World} (h : CutS g1 g2 N k s l i w0 w) (x : ByteArray) (hx : txt (cutM s l i) s = x) : CutS g1 g2 N k s l (i + 1) w0 (w.setCell ⟨g2, i, none⟩ (.string x)) :=
  ⟨(heap_setCell_other _ _ _ _ h.ne).trans h.bytes, h.strs.set x hx, h.old.setCell h.lo2 _, h.ne, h.lo1, h.lo2⟩
theorem CutS.row {g1 g2 N k s : Nat} {l : Nat → UInt8} {i : Nat} {w0 w : World} (h : CutS g1 g2 N k s l i w0 w) {j A : Nat} (hA : j * s = A) (hZ : A + s ≤ N) : w.rangeAt g1 A ((textOf (cutM s l j) s).map u8v) := by
  intro q v hv
  have hq : q < s := by have := (List.getElem?_eq_some_iff.1 hv).1; rw [List.length_map, length_textOf] at this; exact this
  rw [List.getElem?_map, textOf_get _ _ _ hq] at hv
  rw [cell_of_list h.bytes, List.getElem?_map, textOf_get _ _ _ (by omega)]
  rw [← hv]
  show some (u8v (l (A + q))) = some (u8v (l (j * s + q)))
  rw [hA]
set_option maxRecDepth 20000 in
set_option maxHeartbeats 2000000 in
theorem cut_any (k s N : Nat) (t : ByteArray) (hk1 : 1 ≤ k) (hk2 : k ≤ 255) (hs : szN k t.size = s) (hN : k * s = N) (hNm : N ≤ 1000000) (w : World) :
    Calls Tryz.prog 35 #[.int .i64 k, .string t] w fun e w' => ∃ g, e = .returned (.slice (some ⟨g, 0, none⟩) k k) ∧ ColT g k (fun i => txt (cutM s (strAt t) i) s) w' ∧ Below w.heap.size w w' := by
  have hge := szN_ge hk1 t.size
  rw [hs, hN] at hge
  have hz := eSz_any k t.size hk1 (by omega)
  rw [hs] at hz
  have HZ := Lib.hid hz
  have hx : wrap64 ((k : Int) * (s : Int)) = (N : Int) := by
    have : (k : Int) * (s : Int) = (N : Int) := by rw [← hN]; simp
    rw [this]; unfold wrap64; omega
  have hmk := make_zeros N hNm
  have hms := make_strs k (by omega)
  have HN := Lib.hid hN
  have HGE := Lib.hid hge
  have hs1 : s ≤ N := by rw [← hN]; exact Nat.le_mul_of_pos_left s (by omega)
  clear hs hge hN hz
  go_enter Tryz.func35, Tryz.ntmps35
  go_wp2_with fail
  refine (HZ.out _).mono ?_
  rintro e w1 ⟨rfl, hb1⟩
  have HB1 := Lib.hid hb1
  clear hb1
  go_wp2_with (refine wpList_copy_front rfl _ _ 60 9 rfl 5 Tryz.underlying60 (by kernel_rfl) w1.heap.size N t rfl rfl HGE.out 5 (heap_alloc_new _ _) ?_; intro w2 h2 k2 s2; go_frame)
  have hs2 := s2.out
  have B2 : Hid (Below w.heap.size w w2) := Lib.hid (HB1.out.trans ((below_kept (below_alloc w1 _) k2.out (Nat.le_refl _) (by simp)).mono HB1.out.size))
  have hsz1 := HB1.out.size
  obtain ⟨g1, hg1⟩ : ∃ g1, g1 = w1.heap.size := ⟨_, rfl⟩
  obtain ⟨g2, hg2⟩ : ∃ g2, g2 = w2.heap.size := ⟨_, rfl⟩
  have h12 : g1 < g2 := by rw [hg1, hg2, hs2]; simp
  have HC : Hid (CutS g1 g2 N k s (strAt t) 0 w (w2.alloc (.cells (List.replicate k (Value.string .empty)).toArray 9))) := Lib.hid
    ⟨by rw [heap_alloc_old _ _ (by rw [← hg2]; exact h12), hg1]; exact h2.out, by unfold Strs; rw [strTo_zero, hg2]; exact heap_alloc_new _ _, B2.out.alloc B2.out.size _, by omega, by rw [hg1]; exact hsz1, by rw [hg2]; exact B2.out.size⟩
  rw [← hg1, ← hg2]
  clear h2 k2 s2 hs2 B2 hsz1 hg1 hg2 HB1 HZ hmk hms hx
  go_loopw [23] (fun iv wr => ∃ i : Nat, i ≤ k ∧ iv = .int .i64 i ∧ CutS g1 g2 N k s (strAt t) i w wr) (fun iv _ => k - (intOf iv).toNat)
  case atStart => exact ⟨0, by omega, rfl, HC.out⟩
  case round =>
    clear HC
    obtain ⟨i, hi, rfl, hC⟩ := hrel
    have HC := Lib.hid hC
    by_cases hlt : i < k
    · obtain ⟨A, hA⟩ : ∃ A, i * s = A := ⟨_, rfl⟩
      have hAZ : A + s ≤ N := by
        have : (i + 1) * s ≤ k * s := Nat.mul_le_mul_right s (by omega)
        rw [Nat.succ_mul, hA, HN.out] at this; exact this
      have hx : wrap64 ((i : Int) * (s : Int)) = (A : Int) := by
        have : (i : Int) * (s : Int) = (A : Int) := by rw [← hA]; simp
        rw [this]; unfold wrap64; omega
      have hz : wrap64 (((i : Int) + 1) * (s : Int)) = ((A + s : Nat) : Int) := by
        have : (i : Int) * (s : Int) = (A : Int) := by rw [← hA]; simp
        rw [Int.add_mul, Int.one_mul, this]; unfold wrap64; omega
      have HR := Lib.hid (hC.row hA hAZ)
      have hfree := free_of_list hC.strs i
      have hcell := hC.strs.cell hlt
      obtain ⟨Z, hZ⟩ : ∃ Z, Z = A + s := ⟨_, rfl⟩
      rw [← hZ] at hz
      have hZN : Z ≤ N := by omega
      have hAZ' : A ≤ Z := by omega
      have HZS : Hid (Z - A = s) := Lib.hid (by omega)
      by_cases hAN : A = N
      · obtain rfl : Z = A := by omega
        have HTX : Hid (txt (cutM s (strAt t) i) s = (⟨([] : List UInt8).toArray⟩ : ByteArray)) := Lib.hid (by
          rw [show s = 0 by omega, txt_eq]; unfold textOf; rfl)
        have HR0 : Hid (wr.rangeAt g1 0 (([] : List UInt8).map u8v)) := Lib.hid (fun j v hv => by simp at hv)
        subst hAN
        clear hC hA hZ hAZ HR HZS
        go_wp2_with (refine wpList_bytes_string rfl 60 9 _ rfl 5 g1 0 0 0 rfl [] rfl Tryz.underlying60 Tryz.underlying5 Tryz.underlying9 HR0.out ?_; go_frame)
        go_roundw
        case rel => exact ⟨i + 1, by omega, by go_num, HC.out.set _ HTX.out⟩
        case measure => simp [intOf]; omega
      have hAl : A < N := by omega
      clear hC hA hZ hAZ
      go_wp2_with (refine wpList_bytes_string rfl 60 9 _ rfl 5 g1 A (Z - A) (N - A) rfl (textOf (cutM s (strAt t) i) s) (by rw [length_textOf, HZS.out]) Tryz.underlying60 Tryz.underlying5 Tryz.underlying9 HR.out ?_; rw [← txt_eq]; go_frame)
      go_roundw
      case rel => exact ⟨i + 1, by omega, by go_num, HC.out.set _ rfl⟩
      case measure => simp [intOf]; omega
    · obtain rfl : i = k := by omega
      go_wp2_with fail
      go_ret
      exact ⟨g2, rfl, HC.out.strs.colT, HC.out.old⟩
end Go.Proofs.YteanbflbclmeeaaGreat
/-! ECat -/
namespace Go.Proofs.YteanbflbclmeeaaGreat
open Go.RowKit

set_option maxRecDepth 100000 in
set_option maxHeartbeats 2000000 in
theorem Grow_strs (n : Nat) (h1 : 1 ≤ n) (hn : n ≤ 1000000) (w : World) :
    Calls Tryz.prog 55 #[.slice none 0 0, .int .i64 n] w fun e w' => ∃ v, e = .returned v ∧ OwnT w.heap.size v [] w' ∧ v ≠ .slice none 0 0 ∧ Below w.heap.size w w' := by
  obtain ⟨i0, hi, hz0, hz1, hz2⟩ := ginfo_parts infoStr
  have hold : (Builtin.firstCells i0.size 0 (.slice none 0 0)).run Tryz.prog w.drew = .ok ([] : List Value).toArray w.drew := rfl
  have hrz : ∀ ty, (Builtin.append_ #[25, 3] ty #[.slice none 0 0, .int .i64 (n : Int)]).run Tryz.prog w =
      .ok (.slice (some ⟨w.heap.size, 0, none⟩) (0 + n) (grownCap w (0 + n) 0 9)) (w.drew.alloc (.cells (([] : List Value).toArray ++ Builtin.zeroCells (Value.string .empty).cells n ++ Builtin.zeroCells (Value.string .empty).cells (grownCap w (0 + n) 0 9 - (0 + n))) 9)) := fun ty =>
    Lib.run_append_grow_zeros w 25 3 ty 9 i0 (.string .empty) .i64 .i64 Tryz.underlying25 Tryz.underlying3 hi hz0 none 0 0 [] hold n (by omega) (by omega) (by omega) (by omega) (by rw [hz2]; omega) (growslice_fits (by omega) (by rw [hz2]; omega))
  rw [Nat.zero_add] at hrz
  obtain ⟨G, hG⟩ : ∃ G, G = grownCap w n 0 9 := ⟨_, rfl⟩
  have hGn : n ≤ G := by rw [hG]; exact grownCap_ge w _ _ _
  have hGm : G ≤ maxLen := by rw [hG]; exact grownCap_le_maxLen w n 0 9 (by unfold maxLen; omega)
  have hG63 : G ≤ 9223372036854775807 := by unfold maxLen at hGm; omega
  rw [← hG] at hrz
  have HGM := Lib.hid hGm
  clear hold hG hi hz0 hz1 hz2 hGm
  go_enter Tryz.func55, Tryz.ntmps55
  go_wp2_with (at_builtin; refine Lib.wpList_append_run _ rfl _ _ _ _ rfl _ _ rfl rfl _ _ (hrz _) ?_)
  all_goals
    go_ret
    refine ⟨_, rfl, ⟨rfl, Or.inr ⟨w.heap.size, G, _, rfl, Nat.le_refl _, heap_alloc_new w.drew _, by simp, HGM.out, ?_, by simp⟩⟩, by simp, ((Below.refl _ _).drew).alloc (Nat.le_refl _) _⟩
    simp [Builtin.zeroCells]
    omega
/-- The list of a function. -/
def listT (f : Nat → ByteArray) (n : Nat) : List ByteArray := (List.range n).map f
theorem length_listT (f : Nat → ByteArray) (n : Nat) : (listT f n).length = n := by unfold listT; simp
theorem listT_get (f : Nat → ByteArray) (n j : Nat) (hj : j < n) : (listT f n)[j]? = some (f j) := by unfold listT; rw [List.getElem?_map, List.getElem?_range hj]; rfl
theorem news_texts {b o n : Nat} {f : Nat → ByteArray} {w : World} (h : Texts b o n f w) : ∀ j u, ((listT f n).map sv)[j]? = some u → w.cell? ((⟨b, o, none⟩ : Addr).add j) = some u := by
  intro j u hu
  have hj : j < n := by have := (List.getElem?_eq_some_iff.1 hu).1; rw [List.length_map, length_listT] at this; exact this
  rw [List.getElem?_map, listT_get f n j hj] at hu
  rw [Addr.add_mid]
  exact (h j hj).trans hu
/-- The second list: none, or texts. -/
def Second (a2 : Option Addr) (n2 c2 : Nat) (f2 : Nat → ByteArray) (w : World) : Prop := (n2 = 0 ∧ a2 = none ∧ c2 = 0) ∨ ∃ b o, a2 = some ⟨b, o, none⟩ ∧ b < w.heap.size ∧ Texts b o n2 f2 w
theorem Second.below {a2 : Option Addr} {n2 c2 : Nat} {f2 : Nat → ByteArray} {w w' : World} (h : Second a2 n2 c2 f2 w) (hb : Below w.heap.size w w') : Second a2 n2 c2 f2 w' := by
  rcases h with h | ⟨b, o, h1, h2, h3⟩
  · exact .inl h
  · exact .inr ⟨b, o, h1, Nat.lt_of_lt_of_le h2 hb.size, h3.keep (hb.block b h2)⟩
set_option maxRecDepth 100000 in
set_option maxHeartbeats 4000000 in
theorem Concat_two (g b1 o1 n1 c1 n2 c2 : Nat) (a2 : Option Addr) (f1 f2 : Nat → ByteArray) (h1 : 1 ≤ n1) (hn : n1 + n2 ≤ 1000) (w : World) (hg : w.heap[g]? = some (.cells [Value.slice (some ⟨b1, o1, none⟩) n1 c1, .slice a2 n2 c2].toArray 25 (0, 0)))
    (hb1 : b1 < w.heap.size) (ht1 : Texts b1 o1 n1 f1 w) (ht2 : Second a2 n2 c2 f2 w) :
    Calls Tryz.prog 36 #[.slice (some ⟨g, 0, none⟩) 2 2] w fun e w' => ∃ v, e = .returned v ∧ OwnT w.heap.size v (listT f1 n1 ++ listT f2 n2) w' ∧ Below w.heap.size w w' := by
  obtain ⟨i0, hi, hz0, hz1, hz2⟩ := ginfo_parts infoStr
  have c0 : w.cell? ⟨g, 0, none⟩ = some (.slice (some ⟨b1, o1, none⟩) n1 c1) := by rw [cell_of_list hg]; rfl
  have c1' : w.cell? ⟨g, 1, none⟩ = some (.slice a2 n2 c2) := by rw [cell_of_list hg]; rfl
  have hglt := lt_of_heap hg
  have HT := Lib.hid ht1
  have H2 := Lib.hid ht2
  have HI := Lib.hid hi
  clear hg ht1 ht2 hi
  go_enter Tryz.func36, Tryz.ntmps36
  go_wp2_with fail
  go_loopw [3, 11] (fun sv iv wr => ∃ k : Nat, k ≤ 2 ∧ iv = .int .i64 k ∧ sv = .int .i64 (if k = 0 then 0 else if k = 1 then n1 else (n1 : Int) + (n2 : Int)) ∧ wr = w) (fun _ iv _ => 2 - (intOf iv).toNat)
  case atStart => exact ⟨0, by omega, rfl, rfl, rfl⟩
  case round =>
    obtain ⟨k, hk, rfl, rfl, rfl⟩ := hrel
    have hk3 : k = 0 ∨ k = 1 ∨ k = 2 := by omega
    rcases hk3 with rfl | rfl | rfl
    · rw [if_pos rfl]
      go_wp2_with fail
      go_roundw
      case rel => exact ⟨1, by omega, rfl, by simp, trivial⟩
      case measure => simp [intOf]
    · rw [if_neg (by omega), if_pos rfl]
      go_wp2_with fail
      go_roundw
      case rel => exact ⟨2, by omega, rfl, by simp, trivial⟩
      case measure => simp [intOf]
    · rw [if_neg (by omega), if_neg (by omega)]
      obtain ⟨N, hN⟩ : ∃ N, N = n1 + n2 := ⟨_, rfl⟩
      have eN : (n1 : Int) + (n2 : Int) = (N : Int) := by omega
      have hN1 : 1 ≤ N := by omega
      have hNm : N ≤ 1000000 := by omega
      rw [eN]
      clear eN hN
      go_wp2_with fail
      refine (Grow_strs N hN1 hNm _).mono ?_
      rintro e w1 ⟨v, rfl, hown, hnn, hb1'⟩
      have HO := Lib.hid hown
      have HB := Lib.hid hb1'
      clear hown hb1' hnn
      go_wp2_with fail
      obtain ⟨w0, rfl⟩ : ∃ x, x = wr := ⟨_, rfl⟩
      go_loopw [6, 27] (fun vv iv wr => ∃ k : Nat, k ≤ 2 ∧ iv = .int .i64 k ∧ OwnT w0.heap.size vv (if k = 0 then [] else if k = 1 then listT f1 n1 else listT f1 n1 ++ listT f2 n2) wr ∧ Below w0.heap.size w0 wr) (fun _ iv _ => 2 - (intOf iv).toNat)
      case atStart => exact ⟨0, by omega, rfl, HO.out, HB.out⟩
      case round =>
        clear HO HB
        obtain ⟨k, hk, rfl, hown, hB⟩ := hrel
        have d0 := (hB.cell (p := ⟨g, 0, none⟩) hglt).trans c0
        have d1 := (hB.cell (p := ⟨g, 1, none⟩) hglt).trans c1'
        have hsz := hB.size
        have hk3 : k = 0 ∨ k = 1 ∨ k = 2 := by omega
        rcases hk3 with rfl | rfl | rfl
        · rw [if_pos rfl] at hown
          have HO := Lib.hid hown
          have HB := Lib.hid hB
          have HT1 := Lib.hid (HT.out.keep (hB.block b1 hb1))
          clear hown hB
          go_wp2_with (first | (refine wpList_append_strs rfl (.tmp 31) (.tmp 32) rfl w0.heap.size _ [] rfl HO.out ⟨b1, o1, none⟩ n1 c1 (listT f1 n1) rfl (length_listT f1 n1) (news_texts HT1.out) (by simp; omega) hsz ?_; intro v7 w7 h7 hg7; have H7 := Lib.hid h7.out; have B7 := Lib.hid (HB.out.grown hg7.out (by omega) (fun k hk => (HO.out.lt k hk).1)); clear h7 hg7; go_frame) | fail)
          go_roundw
          case rel => exact ⟨1, by omega, rfl, H7.out, B7.out⟩
          case measure => simp [intOf]
        · rw [if_neg (by omega), if_pos rfl] at hown
          have HO := Lib.hid hown
          have HB := Lib.hid hB
          rcases H2.out.below hB with ⟨rfl, rfl, rfl⟩ | ⟨b2, o2, rfl, hb2, ht2⟩
          · clear hown hB
            go_wp2_with (first | (refine wpList_append_own_none rfl (.tmp 31) (.tmp 32) 25 rfl w0.heap.size 9 i0 1 Tryz.underlying25 HI.out _ (listT f1 n1).length _ rfl HO.out rfl ?_; go_frame) | fail)
            go_roundw
            case rel => exact ⟨2, by omega, rfl, by rw [if_neg (by omega), if_neg (by omega), show listT f2 0 = [] from rfl, List.append_nil]; exact HO.out, HB.out⟩
            case measure => simp [intOf]
          · have HT2 := Lib.hid ht2
            clear hown hB ht2
            go_wp2_with (first | (refine wpList_append_strs rfl (.tmp 31) (.tmp 32) rfl w0.heap.size _ (listT f1 n1) rfl HO.out ⟨b2, o2, none⟩ n2 c2 (listT f2 n2) rfl (length_listT f2 n2) (news_texts HT2.out) (by rw [length_listT]; omega) hsz ?_; intro v7 w7 h7 hg7; have H7 := Lib.hid h7.out; have B7 := Lib.hid (HB.out.grown hg7.out (by omega) (fun k hk => (HO.out.lt k hk).1)); clear h7 hg7; go_frame) | fail)
            go_roundw
            case rel => exact ⟨2, by omega, rfl, by rw [if_neg (by omega), if_neg (by omega)]; exact H7.out, B7.out⟩
            case measure => simp [intOf]
        · rw [if_neg (by omega), if_neg (by omega)] at hown
          have HO := Lib.hid hown
          have HB := Lib.hid hB
          clear hown hB
          go_wp2_with fail
          go_ret
          exact ⟨_, rfl, HO.out, HB.out⟩
end Go.Proofs.YteanbflbclmeeaaGreat
/-! EWhole -/
namespace Go.Proofs.YteanbflbclmeeaaGreat
open Go.RowKit

theorem tApplyAt (g r c N hb ho capn m : Nat) (X : Mat) (f : Nat → ByteArray) (hr1 : 1 ≤ r) (hr2 : r ≤ 255) (hc1 : 1 ≤ c) (hc2 : c ≤ 255) (hN : r * c = N) (hmm : m ≤ 1000000) (hm : ∀ j, j < c → (f j).size = m) (w : World) (hX : Tab g X r c w) (h : Texts hb ho c f w) (hl : hb < w.heap.size) :
    Calls Tryz.prog 40 #[mv g r c N, .slice (some ⟨hb, ho, none⟩) c capn] w fun e w' => ∃ h2, e = .returned (.tuple #[.slice (some ⟨h2, 0, none⟩) r r, .nilIface]) ∧ ColT h2 r (fun i => txt (mm c X (fun j => strAt (f j)) i) m) w' ∧ Below w.heap.size w w' :=
  (Apply_good r c g 0 N N hb ho capn m X f hr1 hr2 hc1 hc2 hN (Nat.le_refl _) hmm hm w hX.src hX.lt h hl).mono fun e w' hh => by
    obtain ⟨h2, _, rfl, hs, hb⟩ := hh
    exact ⟨h2, rfl, hs.colT, hb⟩
/-- The shards that belong to k texts. -/
@[irreducible] def parT (k s : Nat) (f : Nat → ByteArray) (i : Nat) : ByteArray := txt (mm k (cauM k) (fun j => strAt (f j)) i) s
theorem parT_eq (k s : Nat) (f : Nat → ByteArray) (i : Nat) : parT k s f i = txt (mm k (cauM k) (fun j => strAt (f j)) i) s := by unfold parT; rfl
theorem parT_size (k s : Nat) (f : Nat → ByteArray) (i : Nat) : (parT k s f i).size = s := by rw [parT_eq, txt_size]
set_option maxRecDepth 20000 in
set_option maxHeartbeats 2000000 in
theorem parity_some (m k s hb ho cap : Nat) (f : Nat → ByteArray) (hm1 : 1 ≤ m) (hk1 : 1 ≤ k) (hkm : k + m ≤ 255) (hs : s ≤ 1000000) (hf : ∀ j, j < k → (f j).size = s) (w : World) (h : Texts hb ho k f w) (hl : hb < w.heap.size) :
    Calls Tryz.prog 34 #[.int .i64 m, .slice (some ⟨hb, ho, none⟩) k cap] w fun e w' => ∃ g, e = .returned (.slice (some ⟨g, 0, none⟩) m m) ∧ ColT g m (parT k s f) w' ∧ Below w.heap.size w w' := by
  obtain ⟨N, hN⟩ : ∃ N, m * k = N := ⟨_, rfl⟩
  have HN := Lib.hid hN
  have HT := Lib.hid h
  have HF := Lib.hid hf
  have hm0 : ((m : Int) == 0) = false := by simp; omega
  clear hN h hf
  go_enter Tryz.func34, Tryz.ntmps34
  go_wp2_with fail
  refine (tCauchy m k N (by omega) (by omega) (by omega) (by omega) (by omega) HN.out _).mono ?_
  rintro e w2 ⟨g1, rfl, t0, hb2⟩
  have B_1 := Lib.hid hb2
  have C_1 := Lib.hid t0
  clear t0 hb2
  go_wp2_with (refine wpList_store_whole rfl 62 _ _ rfl w2.heap.size [.int .i64 m, .int .i64 k, .slice (some ⟨g1, 0, none⟩) N N] zeroRow 62 rfl rfl (heap_alloc_new _ _) rfl (by kernel_rfl) (mv_ones _ _ _ _) ?_; intro w3 h3 k3 s3; have hs3 := after_box k3.out; have C_2 := Lib.hid ((BoxT.of h3.out k3.out C_1.out).1); have B_2 := Lib.hid (B_1.out.trans (hs3.mono B_1.out.size)); obtain ⟨c0, c1, c2⟩ := heap_cell0 C_2.out.box; clear B_1 C_1 hs3; go_frame)
  clear h3 k3 s3
  refine (tApplyAt g1 m k N hb ho cap s (cauM k) f (by omega) (by omega) (by omega) (by omega) HN.out hs HF.out _ C_2.out.tab (HT.out.keep (B_2.out.block hb hl)) (Nat.lt_of_lt_of_le hl B_2.out.size)).mono ?_
  rintro e w4 ⟨h2, rfl, t1, hb4⟩
  have B_3 := Lib.hid (B_2.out.trans (hb4.mono B_2.out.size))
  have T := Lib.hid t1
  clear t1 hb4 c0 c1 c2 B_2 C_2
  go_wp2_with fail
  go_ret
  refine ⟨h2, rfl, ?_, B_3.out⟩
  rw [show parT k s f = fun i => txt (mm k (cauM k) (fun j => strAt (f j)) i) s from funext fun i => parT_eq k s f i]
  exact T.out
theorem parity_none (a0 : Option Addr) (n cap : Nat) (w : World) : Calls Tryz.prog 34 #[.int .i64 0, .slice a0 n cap] w fun e w' => e = .returned (.slice none 0 0) ∧ w = w' := by
  go_enter Tryz.func34, Tryz.ntmps34
  go_wp2_with fail
  go_ret
  exact ⟨rfl, rfl⟩
/-- None, or some: as the second list of Concat. -/
theorem parity_any (m k s hb ho cap : Nat) (f : Nat → ByteArray) (hk1 : 1 ≤ k) (hkm : k + m ≤ 255) (hs : s ≤ 1000000) (hf : ∀ j, j < k → (f j).size = s) (w : World) (h : Texts hb ho k f w) (hl : hb < w.heap.size) :
    Calls Tryz.prog 34 #[.int .i64 m, .slice (some ⟨hb, ho, none⟩) k cap] w fun e w' => ∃ a2 c2, e = .returned (.slice a2 m c2) ∧ Second a2 m c2 (parT k s f) w' ∧ Below w.heap.size w w' := by
  by_cases hm : 1 ≤ m
  · refine (parity_some m k s hb ho cap f hm hk1 hkm hs hf w h hl).mono ?_
    rintro e w' ⟨g, rfl, hT, hb⟩
    exact ⟨_, _, rfl, .inr ⟨g, 0, rfl, hT.lt, hT.t⟩, hb⟩
  · obtain rfl : m = 0 := by omega
    refine (parity_none (some ⟨hb, ho, none⟩) k cap w).mono ?_
    rintro e w' ⟨rfl, rfl⟩
    exact ⟨_, _, rfl, .inl ⟨rfl, rfl, rfl⟩, Below.refl _ _⟩
/-- All shards that k texts make. -/
@[irreducible] def allT (k s : Nat) (f : Nat → ByteArray) (i : Nat) : ByteArray := if i < k then f i else parT k s f (i - k)
theorem allT_lo {k s : Nat} {f : Nat → ByteArray} {i : Nat} (h : i < k) : allT k s f i = f i := by unfold allT; rw [if_pos h]
theorem allT_hi {k s : Nat} {f : Nat → ByteArray} {i : Nat} (h : k ≤ i) : allT k s f i = parT k s f (i - k) := by unfold allT; rw [if_neg (by omega)]
theorem allT_size {k s : Nat} {f : Nat → ByteArray} (hf : ∀ j, j < k → (f j).size = s) (i : Nat) : (allT k s f i).size = s := by
  by_cases h : i < k
  · rw [allT_lo h, hf i h]
  · rw [allT_hi (by omega), parT_size]
/-- They are the shards of their bytes. -/
theorem allT_sh {k s : Nat} {f : Nat → ByteArray} (hf : ∀ j, j < k → (f j).size = s) (i : Nat) : allT k s f i = shT k s (fun j => strAt (f j)) i := by
  by_cases h : i < k
  · rw [allT_lo h, shT_lo _ h]; exact txt_str _ _ (hf i h)
  · rw [allT_hi (by omega), shT_hi _ (by omega), parT_eq]
theorem lists_all (k m s : Nat) (f : Nat → ByteArray) : listT f k ++ listT (parT k s f) m = listT (allT k s f) (k + m) := by
  apply List.ext_getElem?
  intro j
  by_cases h1 : j < k
  · rw [List.getElem?_append_left (by rw [length_listT]; exact h1), listT_get _ _ _ h1, listT_get _ _ _ (by omega), allT_lo h1]
  · rw [List.getElem?_append_right (by rw [length_listT]; omega), length_listT]
    by_cases h2 : j < k + m
    · rw [listT_get _ _ _ (by omega), listT_get _ _ _ h2, allT_hi (by omega)]
    · rw [List.getElem?_eq_none (by rw [length_listT]; omega), List.getElem?_eq_none (by rw [length_listT]; omega)]
theorem own_colT {B n : Nat} {v : Value} {F : Nat → ByteArray} {w : World} (h : OwnT B v (listT F n) w) (hn : 1 ≤ n) : ∃ g cap, v = .slice (some ⟨g, 0, none⟩) n cap ∧ n ≤ cap ∧ B ≤ g ∧ ColT g n F w := by
  obtain ⟨g, cap, rfl, hc, hg, hl⟩ := h.form (by rw [length_listT]; exact hn)
  have ht := h.texts
  rw [length_listT] at ht hc ⊢
  refine ⟨g, cap, rfl, hc, hg, fun j hj => ?_, hl⟩
  rw [ht j hj]
  show some (Value.string ((listT F n).getD j .empty)) = some (Value.string (F j))
  rw [List.getD, listT_get _ _ _ hj]; rfl
theorem own_lower {B B' : Nat} {v : Value} {l : List ByteArray} {w : World} (h : OwnT B v l w) (hB : B' ≤ B) : OwnT B' v l w := by
  refine ⟨h.1, ?_⟩
  rcases h.2 with h2 | ⟨g, cap, cur, h1, h2, h3⟩
  · exact .inl h2
  · exact .inr ⟨g, cap, cur, h1, Nat.le_trans hB h2, h3⟩
/-- Texts in a row of their own, that may be written. -/
structure ColO (B g n c : Nat) (F : Nat → ByteArray) (w : World) : Prop where
  t : Texts g 0 n F w
  lt : g < w.heap.size
  own : OwnT B (.slice (some ⟨g, 0, none⟩) n c) (listT F n) w
  lo : B ≤ g
theorem ColO.col {B g n c : Nat} {F : Nat → ByteArray} {w : World} (h : ColO B g n c F w) : ColT g n F w := ⟨h.t, h.lt⟩
theorem ColO.congr {B g n c : Nat} {F G : Nat → ByteArray} {w : World} (h : ColO B g n c F w) (e : F = G) : ColO B g n c G w := e ▸ h
theorem ColO.below {B g n c : Nat} {F : Nat → ByteArray} {w w' : World} (h : ColO B g n c F w) (hb : Below w.heap.size w w') : ColO B g n c F w' :=
  ⟨h.t.keep (hb.block g h.lt), Nat.lt_of_lt_of_le h.lt hb.size, h.own.below hb, h.lo⟩
theorem ColO.free {B g n c : Nat} {F : Nat → ByteArray} {w : World} (h : ColO B g n c F w) (j : Nat) : w.frozen? ⟨g, j, none⟩ = false := by
  have := h.own
  unfold OwnT at this
  rw [length_listT] at this
  exact World.ownsRow.frozenAt this j
theorem ColO.set {B g n c q : Nat} {F : Nat → ByteArray} {w : World} (h : ColO B g n c F w) (x : ByteArray) (hq : q < n) : ColT g n (fun j => if j = q then x else F j) (w.setCell ⟨g, q, none⟩ (.string x)) :=
  ⟨fun j hj => by
    show _ = some (Value.string (if j = q then x else F j))
    by_cases e : j = q
    · subst e
      rw [if_pos rfl, Nat.zero_add]
      refine World.cell?_setCell_same (u := .string (F j)) _ _ _ ?_
      have := h.t j hj
      rw [Nat.zero_add] at this
      exact this
    · rw [if_neg e, World.cell?_setCell_other _ _ _ _ (fun h0 => e (by injection h0 with _ h1 _; omega))]
      exact h.t j hj, by rw [World.size_setCell]; exact h.lt⟩
set_option maxRecDepth 20000 in
set_option maxHeartbeats 2000000 in
theorem whole_any (m k n s hb ho cap : Nat) (f : Nat → ByteArray) (hk1 : 1 ≤ k) (hn : k + m = n) (hkm : n ≤ 255) (hs : s ≤ 1000000) (hf : ∀ j, j < k → (f j).size = s) (w : World) (h : Texts hb ho k f w) (hl : hb < w.heap.size) :
    Calls Tryz.prog 21 #[.int .i64 m, .slice (some ⟨hb, ho, none⟩) k cap] w fun e w' => ∃ g c, e = .returned (.slice (some ⟨g, 0, none⟩) n c) ∧ n ≤ c ∧ ColO w.heap.size g n c (allT k s f) w' ∧ Below w.heap.size w w' := by
  have HT := Lib.hid h
  have HN := Lib.hid hn
  have HP := Lib.hid (parity_any m k s hb ho cap f hk1 (by omega) hs hf w h hl)
  clear h hn hf
  go_enter Tryz.func21, Tryz.ntmps21
  go_wp2_with fail
  refine HP.out.mono ?_
  rintro e w1 ⟨a2, c2, rfl, hS, hb1⟩
  have HS := Lib.hid hS
  have HB := Lib.hid hb1
  clear hS hb1 HP
  go_wp2_with fail
  obtain ⟨g0, hg0⟩ : ∃ g0, g0 = w1.heap.size := ⟨_, rfl⟩
  have hbz : Below w1.heap.size w1 (w1.alloc (.cells #[.slice (some ⟨hb, ho, none⟩) k cap, .slice a2 m c2] 25)) := below_alloc _ _
  refine (Concat_two w1.heap.size hb ho k cap m c2 a2 f (parT k s f) hk1 (by have := HN.out; omega) _ (heap_alloc_new _ _) (Nat.lt_of_lt_of_le (Nat.lt_of_lt_of_le hl HB.out.size) hbz.size) (HT.out.keep ((hbz.block hb (Nat.lt_of_lt_of_le hl HB.out.size)).trans (HB.out.block hb hl))) (HS.out.below hbz)).mono ?_
  rintro e w2 ⟨v, rfl, ho2, hb2⟩
  have HB2 := Lib.hid (HB.out.trans (hbz.mono HB.out.size) |>.trans (hb2.mono (Nat.le_trans HB.out.size hbz.size)))
  rw [lists_all, HN.out] at ho2
  obtain ⟨g, c, rfl, hcc, hgl, hC⟩ := own_colT ho2 (by have := HN.out; omega)
  have hle : w.heap.size ≤ (w1.alloc (.cells #[.slice (some ⟨hb, ho, none⟩) k cap, .slice a2 m c2] 25)).heap.size := Nat.le_trans HB.out.size hbz.size
  have HC : Hid (ColO w.heap.size g n c (allT k s f) w2) := Lib.hid ⟨hC.t, hC.lt, own_lower ho2 hle, Nat.le_trans hle hgl⟩
  clear ho2 hb2 hC hbz hg0 hle hgl
  go_wp2_with fail
  go_ret
  exact ⟨g, c, rfl, hcc, HC.out, HB2.out⟩
end Go.Proofs.YteanbflbclmeeaaGreat
/-! EThere -/
namespace Go.Proofs.YteanbflbclmeeaaGreat
open Go.RowKit

/-- Pieces at a place. -/
def Pcs (b o n : Nat) (has : Nat → Bool) (dat : Nat → ByteArray) (w : World) : Prop := ∀ j, j < n → w.cell? ⟨b, o + j * 2, none⟩ = some (.bool (has j)) ∧ w.cell? ⟨b, o + j * 2 + 1, none⟩ = some (.string (dat j))
theorem Pcs.keep {b o n : Nat} {has : Nat → Bool} {dat : Nat → ByteArray} {w w' : World} (h : Pcs b o n has dat w) (hk : w'.heap[b]? = w.heap[b]?) : Pcs b o n has dat w' := fun j hj =>
  ⟨(World.cell?_of_block (w := w) (a := ⟨b, o + j * 2, none⟩) hk).trans (h j hj).1, (World.cell?_of_block (w := w) (a := ⟨b, o + j * 2 + 1, none⟩) hk).trans (h j hj).2⟩
/-- Pieces that a slice shows. -/
def PX (a0 : Option Addr) (n : Nat) (has : Nat → Bool) (dat : Nat → ByteArray) (w : World) : Prop := 0 < n → ∃ b o, a0 = some ⟨b, o, none⟩ ∧ b < w.heap.size ∧ Pcs b o n has dat w
theorem PX.below {a0 : Option Addr} {n : Nat} {has : Nat → Bool} {dat : Nat → ByteArray} {w w' : World} (h : PX a0 n has dat w) (hb : Below w.heap.size w w') : PX a0 n has dat w' := fun h0 => by
  obtain ⟨b, o, rfl, hl, ht⟩ := h h0
  exact ⟨b, o, rfl, Nat.lt_of_lt_of_le hl hb.size, ht.keep (hb.block b hl)⟩
/-- The numbers of those that are there. -/
@[irreducible] def hereL (has : Nat → Bool) (n : Nat) : List Nat := (List.range n).filter has
theorem hereL_eq (has : Nat → Bool) (n : Nat) : hereL has n = (List.range n).filter has := by unfold hereL; rfl
theorem hereL_zero (has : Nat → Bool) : hereL has 0 = [] := by rw [hereL_eq]; rfl
theorem hereL_yes {has : Nat → Bool} {n : Nat} (h : has n = true) : hereL has (n + 1) = hereL has n ++ [n] := by
  rw [hereL_eq, hereL_eq, List.range_succ, List.filter_append]; simp [h]
theorem hereL_no {has : Nat → Bool} {n : Nat} (h : has n = false) : hereL has (n + 1) = hereL has n := by
  rw [hereL_eq, hereL_eq, List.range_succ, List.filter_append]; simp [h]
theorem hereL_mem {has : Nat → Bool} {n x : Nat} : x ∈ hereL has n ↔ x < n ∧ has x = true := by rw [hereL_eq, List.mem_filter, List.mem_range]
theorem hereL_le (has : Nat → Bool) (n : Nat) : (hereL has n).length ≤ n := by
  rw [hereL_eq]
  have := List.length_filter_le has (List.range n)
  rw [List.length_range] at this; exact this
theorem hereL_inj {has : Nat → Bool} {n r s : Nat} (hr : r < (hereL has n).length) (hs : s < (hereL has n).length) (e : (hereL has n).getD r 0 = (hereL has n).getD s 0) : r = s := by
  have h1 : (hereL has n).Pairwise (· < ·) := by rw [hereL_eq]; exact List.pairwise_lt_range.filter _
  rw [List.pairwise_iff_getElem] at h1
  simp only [List.getD, List.getElem?_eq_getElem hr, List.getElem?_eq_getElem hs, Option.getD_some] at e
  rcases Nat.lt_trichotomy r s with hl | hl | hl
  · have := h1 r s hr hs hl; omega
  · exact hl
  · have := h1 s r hs hr hl; omega
theorem hereL_at {has : Nat → Bool} {n r : Nat} (hr : r < (hereL has n).length) : (hereL has n).getD r 0 < n ∧ has ((hereL has n).getD r 0) = true := by
  have : (hereL has n).getD r 0 ∈ hereL has n := by
    rw [List.getD, List.getElem?_eq_getElem hr]; exact List.getElem_mem hr
  exact hereL_mem.1 this
/-- Rows of different kinds lie apart. -/
theorem own_apart {B B' : Nat} {v v' : Value} {l : List Nat} {l' : List ByteArray} {w : World} (h : Own B v l w) (h' : OwnT B' v' l' w) : v'.ownBlock = none ∨ v'.ownBlock ≠ v.ownBlock := by
  rcases h'.2 with ⟨rfl, _⟩ | ⟨g', cap', cur', rfl, _, hc', _⟩
  · exact .inl rfl
  · refine .inr fun e => ?_
    rcases h.2 with ⟨rfl, _⟩ | ⟨g, cap, cur, rfl, _, hc, _⟩
    · cases e
    · have e : some g' = some g := e
      injection e with e
      subst e
      rw [hc] at hc'
      injection hc' with hc'
      injection hc' with _ e2 _
      exact absurd e2 (by decide)
theorem own_apart' {B B' : Nat} {v v' : Value} {l : List Nat} {l' : List ByteArray} {w : World} (h : Own B v l w) (h' : OwnT B' v' l' w) : v.ownBlock = none ∨ v.ownBlock ≠ v'.ownBlock := by
  rcases h.2 with ⟨rfl, _⟩ | ⟨g, cap, cur, rfl, _, hc, _⟩
  · exact .inl rfl
  · refine .inr fun e => ?_
    rcases own_apart h h' with h0 | h0
    · rw [h0] at e; cases e
    · exact h0 e.symm
structure ThS (has : Nat → Bool) (dat : Nat → ByteArray) (i : Nat) (v1 v2 : Value) (w0 w : World) : Prop where
  r : Own w0.heap.size v1 (hereL has i) w
  t : OwnT w0.heap.size v2 ((hereL has i).map dat) w
  old : Below w0.heap.size w0 w
set_option maxRecDepth 20000 in
set_option maxHeartbeats 4000000 in
theorem there_any (n cap : Nat) (a0 : Option Addr) (has : Nat → Bool) (dat : Nat → ByteArray) (hn : n ≤ 1000) (w : World) (h : PX a0 n has dat w) :
    Calls Tryz.prog 18 #[.slice a0 n cap] w fun e w' => ∃ v1 v2, e = .returned (.tuple #[v1, v2]) ∧ Own w.heap.size v1 (hereL has n) w' ∧ OwnT w.heap.size v2 ((hereL has n).map dat) w' ∧ Below w.heap.size w w' := by
  have H := Lib.hid h
  clear h
  go_enter Tryz.func18, Tryz.ntmps18
  go_wp2_with fail
  go_loopw [4, 5, 9] (fun v1 v2 iv wr => ∃ i : Nat, i ≤ n ∧ iv = .int .i64 i ∧ ThS has dat i v1 v2 w wr) (fun _ _ iv _ => n - (intOf iv).toNat)
  case atStart => exact ⟨0, by omega, rfl, ⟨by rw [hereL_zero]; exact Own.nil _ _, by rw [hereL_zero]; exact OwnT.nil _ _, Below.refl _ _⟩⟩
  case round =>
    obtain ⟨i, hi, rfl, hT⟩ := hrel
    have HT := Lib.hid hT
    clear hT
    by_cases hlt : i < n
    · obtain ⟨b, o, rfl, hbl, hp⟩ := H.out (by omega)
      obtain ⟨d, hd⟩ : ∃ d, d = dat i := ⟨_, rfl⟩
      have c0 := (HT.out.old.cell (p := ⟨b, o + i * 2, none⟩) hbl).trans (hp i hlt).1
      have HC1 : Hid (∀ v, Below w.heap.size w v → v.cell? ⟨b, o + i * 2 + 1, none⟩ = some (.string d)) := Lib.hid fun v hv => by rw [hd]; exact (hv.cell (p := ⟨b, o + i * 2 + 1, none⟩) hbl).trans (hp i hlt).2
      have HD := Lib.hid hd
      clear hp hd
      by_cases hh : has i = true
      · rw [hh] at c0
        have hle := hereL_le has i
        have hsz := HT.out.old.size
        go_wp2_with (first | (refine wpList_append_ints rfl (.tmp 17) (.tmp 19) rfl w.heap.size _ (hereL has i) rfl (HT.out.r.alloc _) ⟨wr.heap.size, 0, none⟩ 1 1 [i] rfl rfl (one_int wr i) (by omega) (by simp; omega) ?_; intro v1' w1 ho hg; have HB1 := Lib.hid (grown_below (HT.out.old.alloc hsz _) (by simp; omega) (HT.out.r.alloc _) hg.out); have HT1 := Lib.hid ((HT.out.t.alloc _).kept hg.out (own_apart HT.out.r HT.out.t)); have c1 := HC1.out w1 HB1.out; have hsz1 := HB1.out.size; clear hg; go_frame) | (refine wpList_append_strs rfl (.tmp 21) (.tmp 27) rfl w.heap.size _ ((hereL has i).map dat) rfl (HT1.out.alloc _) ⟨w1.heap.size, 0, none⟩ 1 1 [d] rfl rfl (one_str w1 d) (by rw [List.length_map]; simp; omega) (by simp; omega) ?_; intro v2' w2 ho2 hg2; have HB2 := Lib.hid (grown_belowT (HB1.out.alloc hsz1 _) (by simp; omega) (HT1.out.alloc _) hg2.out); have HR2 := Lib.hid ((ho.out.alloc _).kept hg2.out (own_apart' ho.out HT1.out)); clear hg2; go_frame))
        go_roundw
        case rel => exact ⟨i + 1, by omega, by go_num, ⟨by rw [hereL_yes hh]; exact HR2.out, by rw [hereL_yes hh, List.map_append, List.map_singleton, ← HD.out]; exact ho2.out, HB2.out⟩⟩
        case measure => simp [intOf]; omega
      · have hh : has i = false := by simpa using hh
        rw [hh] at c0
        go_wp2_with fail
        go_roundw
        case rel => exact ⟨i + 1, by omega, by go_num, ⟨by rw [hereL_no hh]; exact HT.out.r, by rw [hereL_no hh]; exact HT.out.t, HT.out.old⟩⟩
        case measure => simp [intOf]; omega
    · obtain rfl : i = n := by omega
      go_wp2_with fail
      go_ret2
      exact ⟨_, _, rfl, HT.out.r, HT.out.t, HT.out.old⟩
end Go.Proofs.YteanbflbclmeeaaGreat
