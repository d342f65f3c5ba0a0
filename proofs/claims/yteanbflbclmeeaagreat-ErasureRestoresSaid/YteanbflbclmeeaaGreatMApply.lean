/- The walk of Apply. -/
import Derived.Test.YteanbflbclmeeaaGreatMMul
namespace Go.Proofs.YteanbflbclmeeaaGreat
open Go.RowKit

/-- Texts at a place, whatever they are. -/
def Texts (b o n : Nat) (f : Nat → ByteArray) (w : World) : Prop := ∀ j, j < n → w.cell? ⟨b, o + j, none⟩ = some (.string (f j))
theorem Texts.keep {b o n : Nat} {f : Nat → ByteArray} {w w' : World} (h : Texts b o n f w) (hk : w'.heap[b]? = w.heap[b]?) : Texts b o n f w' := fun j hj => (World.cell?_of_block (w := w) (a := ⟨b, o + j, none⟩) hk).trans (h j hj)
theorem txt_str (s : ByteArray) (m : Nat) (h : s.size = m) : s = txt (strAt s) m := by
  subst h
  apply ByteArray.ext
  apply Array.toList_inj.1
  rw [txt_list]
  apply List.ext_getElem?
  intro k
  by_cases hk : k < s.size
  · rw [textOf_get _ _ _ hk, strAt_eq, List.getD, List.getElem?_eq_getElem (by rw [size_toList]; exact hk)]; rfl
  · rw [List.getElem?_eq_none (by rw [size_toList]; omega), List.getElem?_eq_none (by rw [length_textOf]; omega)]
theorem Texts.col {b o n m : Nat} {f : Nat → ByteArray} {w : World} (h : Texts b o n f w) (hm : ∀ j, j < n → (f j).size = m) : Col b o n m (fun j => strAt (f j)) w := fun j hj => by rw [h j hj, ← txt_str _ _ (hm j hj)]
theorem nat_neB {a b : Nat} (h : a ≠ b) : ((a : Int) != (b : Int)) = true := nat_ne_B h
set_option maxHeartbeats 1000000 in
theorem one_yes (b o n m cap : Nat) (f : Nat → ByteArray) (hn : n ≤ 1000000) (hm : ∀ j, j < n → (f j).size = m) (w : World) (h : Texts b o n f w) :
    Calls Tryz.prog 67 #[.slice (some ⟨b, o, none⟩) n cap] w fun e w' => e = .returned (.bool true) ∧ w = w' := by
  have H := Lib.hid h
  have HM := Lib.hid hm
  clear h hm
  go_enter Tryz.func67, Tryz.ntmps67
  go_wp2_with fail
  go_loopw [7] (fun iv wr => ∃ i : Nat, i ≤ n ∧ iv = .int .i64 i ∧ wr = w) (fun iv _ => n - (intOf iv).toNat)
  case atStart => exact ⟨0, by omega, rfl, rfl⟩
  case round =>
    obtain ⟨i, hi, rfl, rfl⟩ := hrel
    by_cases hlt : i < n
    · obtain ⟨x, hx⟩ : ∃ x, x = f i := ⟨_, rfl⟩
      obtain ⟨y, hy⟩ : ∃ y, y = f 0 := ⟨_, rfl⟩
      have c0 : wr.cell? ⟨b, o + i, none⟩ = some (.string x) := by rw [hx]; exact H.out i hlt
      have c1 : wr.cell? ⟨b, o, none⟩ = some (.string y) := by rw [hy]; exact H.out 0 (by omega)
      have hb := nat_eq_B (i := x.size) (p := y.size) (by rw [hx, hy, HM.out i hlt, HM.out 0 (by omega)])
      clear hx hy
      go_wp2_with fail
      go_roundw
      case rel => exact ⟨i + 1, by omega, by go_num, trivial⟩
      case measure => simp [intOf]; omega
    · obtain rfl : i = n := by omega
      go_wp2_with fail
      go_ret
      exact ⟨rfl, rfl⟩
set_option maxHeartbeats 1000000 in
theorem one_no (b o n cap k : Nat) (f : Nat → ByteArray) (hn : n ≤ 1000000) (hk : k < n) (hne : (f k).size ≠ (f 0).size) (hm : ∀ j, j < k → (f j).size = (f 0).size) (w : World) (h : Texts b o n f w) :
    Calls Tryz.prog 67 #[.slice (some ⟨b, o, none⟩) n cap] w fun e w' => e = .returned (.bool false) ∧ w = w' := by
  have H := Lib.hid h
  have HM := Lib.hid hm
  have HNE := Lib.hid hne
  clear h hm hne
  go_enter Tryz.func67, Tryz.ntmps67
  go_wp2_with fail
  go_loopw [7] (fun iv wr => ∃ i : Nat, i ≤ k ∧ iv = .int .i64 i ∧ wr = w) (fun iv _ => n - (intOf iv).toNat)
  case atStart => exact ⟨0, by omega, rfl, rfl⟩
  case round =>
    obtain ⟨i, hi, rfl, rfl⟩ := hrel
    have hlt : i < n := by omega
    obtain ⟨x, hx⟩ : ∃ x, x = f i := ⟨_, rfl⟩
    obtain ⟨y, hy⟩ : ∃ y, y = f 0 := ⟨_, rfl⟩
    have c0 : wr.cell? ⟨b, o + i, none⟩ = some (.string x) := by rw [hx]; exact H.out i hlt
    have c1 : wr.cell? ⟨b, o, none⟩ = some (.string y) := by rw [hy]; exact H.out 0 (by omega)
    by_cases hik : i = k
    · have hb := nat_ne_B (i := x.size) (p := y.size) (by rw [hx, hy, hik]; exact HNE.out)
      clear hx hy hik
      go_wp2_with fail
      go_ret
      exact ⟨rfl, rfl⟩
    · have hb := nat_eq_B (i := x.size) (p := y.size) (by rw [hx, hy, HM.out i (by omega)])
      clear hx hy
      go_wp2_with fail
      go_roundw
      case rel => exact ⟨i + 1, by omega, by go_num, trivial⟩
      case measure => simp [intOf]; omega
/-- Boxes at the beginning: the matrix. -/
theorem box1 (w : World) (x y z : Value) : (w.alloc (.cells #[x, y, z] 62)).heap[w.heap.size]? = some (.cells [x, y, z].toArray 62 (0, 0)) ∧ Below w.heap.size w (w.alloc (.cells #[x, y, z] 62)) :=
  ⟨heap_alloc_new _ _, (Below.refl _ _).alloc (Nat.le_refl _) _⟩
set_option maxHeartbeats 1000000 in
theorem Apply_bad (r c : Int) (a0 : Option Addr) (len cap : Nat) (s0 : Option Addr) (n capn : Nat) (hr : rightB r c len = false) (w : World) :
    Calls Tryz.prog 40 #[.agg #[.int .i64 r, .int .i64 c, .slice a0 len cap], .slice s0 n capn] w fun e w' => ∃ g, w.heap.size ≤ g ∧ e = .returned (.tuple #[.slice none 0 0, faultV g]) ∧ FaultAt g 1 0 w' ∧ Below w.heap.size w w' := by
  go_enter Tryz.func40, Tryz.ntmps40
  go_wp2_with fail
  refine (Right_any r c a0 len cap _).mono ?_
  rintro e w1 ⟨rfl, hb1⟩
  rw [hr]
  have HB1 := Lib.hid ((box1 w (.int .i64 r) (.int .i64 c) (.slice a0 len cap)).2.trans (hb1.mono (by simp)))
  clear hb1
  go_wp2_with fail
  refine (fault_any 1 _).mono ?_
  rintro e w2 ⟨rfl, hF, hb2⟩
  have HF := Lib.hid hF
  have HB2 := Lib.hid (HB1.out.trans (hb2.mono HB1.out.size))
  clear hF hb2
  go_wp2_with fail
  go_ret2
  exact ⟨_, HB1.out.size, rfl, HF.out, HB2.out⟩
set_option maxHeartbeats 1000000 in
theorem Apply_len (rn cn b o len cap : Nat) (s0 : Option Addr) (n capn : Nat) (hr : rightB rn cn len = true) (hne : n ≠ cn) (w : World) :
    Calls Tryz.prog 40 #[.agg #[.int .i64 rn, .int .i64 cn, .slice (some ⟨b, o, none⟩) len cap], .slice s0 n capn] w fun e w' => ∃ g, w.heap.size ≤ g ∧ e = .returned (.tuple #[.slice none 0 0, faultV g]) ∧ FaultAt g 19 0 w' ∧ Below w.heap.size w w' := by
  have hnb := nat_ne_B (i := n) (p := cn) hne
  clear hne
  go_enter Tryz.func40, Tryz.ntmps40
  go_wp2_with fail
  refine (Right_any rn cn _ len cap _).mono ?_
  rintro e w1 ⟨rfl, hb1⟩
  rw [hr]
  have HB1 := Lib.hid ((box1 w (.int .i64 rn) (.int .i64 cn) (.slice (some ⟨b, o, none⟩) len cap)).2.trans (hb1.mono (by simp)))
  obtain ⟨d0, d1, d2⟩ := heap_cell0 ((hb1.block _ (by simp)).trans (box1 w (.int .i64 rn) (.int .i64 cn) (.slice (some ⟨b, o, none⟩) len cap)).1)
  clear hb1
  go_wp2_with fail
  refine (fault_any 19 _).mono ?_
  rintro e w2 ⟨rfl, hF, hb2⟩
  have HF := Lib.hid hF
  have HB2 := Lib.hid (HB1.out.trans (hb2.mono HB1.out.size))
  clear hF hb2 d0 d1 d2
  go_wp2_with fail
  go_ret2
  exact ⟨_, HB1.out.size, rfl, HF.out, HB2.out⟩
set_option maxHeartbeats 1000000 in
theorem Apply_one (rn cn b o len cap hb ho capn k : Nat) (f : Nat → ByteArray) (hr : rightB rn cn len = true) (hcn : cn ≤ 255) (hk : k < cn) (hne : (f k).size ≠ (f 0).size) (hm : ∀ j, j < k → (f j).size = (f 0).size) (w : World) (h : Texts hb ho cn f w) (hbl : hb < w.heap.size) :
    Calls Tryz.prog 40 #[.agg #[.int .i64 rn, .int .i64 cn, .slice (some ⟨b, o, none⟩) len cap], .slice (some ⟨hb, ho, none⟩) cn capn] w fun e w' => ∃ g, w.heap.size ≤ g ∧ e = .returned (.tuple #[.slice none 0 0, faultV g]) ∧ FaultAt g 19 0 w' ∧ Below w.heap.size w w' := by
  have hnb := nat_eq_B (i := cn) (p := cn) rfl
  have H1 := Lib.hid (fun v hv => one_no hb ho cn capn k f (by omega) hk hne hm v hv)
  have H := Lib.hid h
  clear hne hm h
  go_enter Tryz.func40, Tryz.ntmps40
  go_wp2_with fail
  refine (Right_any rn cn _ len cap _).mono ?_
  rintro e w1 ⟨rfl, hb1⟩
  rw [hr]
  have HB1 := Lib.hid ((box1 w (.int .i64 rn) (.int .i64 cn) (.slice (some ⟨b, o, none⟩) len cap)).2.trans (hb1.mono (by simp)))
  obtain ⟨d0, d1, d2⟩ := heap_cell0 ((hb1.block _ (by simp)).trans (box1 w (.int .i64 rn) (.int .i64 cn) (.slice (some ⟨b, o, none⟩) len cap)).1)
  clear hb1
  go_wp2_with fail
  refine (H1.out _ (H.out.keep (HB1.out.block hb hbl))).mono ?_
  rintro e w' ⟨rfl, rfl⟩
  go_wp2_with fail
  refine (fault_any 19 _).mono ?_
  rintro e w2 ⟨rfl, hF, hb2⟩
  have HF := Lib.hid hF
  have HB2 := Lib.hid (HB1.out.trans (hb2.mono HB1.out.size))
  clear hF hb2 d0 d1 d2
  go_wp2_with fail
  go_ret2
  exact ⟨_, HB1.out.size, rfl, HF.out, HB2.out⟩
set_option maxHeartbeats 1000000 in
theorem Apply_good (rn cn b o len cap hb ho capn m : Nat) (X : Mat) (f : Nat → ByteArray) (hr1 : 1 ≤ rn) (hr2 : rn ≤ 255) (hc1 : 1 ≤ cn) (hc2 : cn ≤ 255) (hlen : rn * cn = len) (hcap : len ≤ cap) (hmm : m ≤ 1000000) (hm : ∀ j, j < cn → (f j).size = m)
    (w : World) (hX : Src b o X rn cn w) (hbl : b < w.heap.size) (h : Texts hb ho cn f w) (hhl : hb < w.heap.size) :
    Calls Tryz.prog 40 #[.agg #[.int .i64 rn, .int .i64 cn, .slice (some ⟨b, o, none⟩) len cap], .slice (some ⟨hb, ho, none⟩) cn capn] w fun e w' => ∃ h, w.heap.size ≤ h ∧ e = .returned (.tuple #[.slice (some ⟨h, 0, none⟩) rn rn, .nilIface]) ∧ Strs h rn (fun i => txt (mm cn X (fun j => strAt (f j)) i) m) rn w' ∧ Below w.heap.size w w' := by
  have hr : rightB rn cn len = true := by rw [rightB_eq]; exact decide_eq_true ⟨by omega, by omega, by omega, by omega, by rw [← hlen]; simp⟩
  have hlm : len ≤ 65025 := by rw [← hlen]; exact Nat.mul_le_mul hr2 hc2
  have hnb := nat_eq_B (i := cn) (p := cn) rfl
  have H1 := Lib.hid (fun v hv => one_yes hb ho cn m capn f (by omega) hm v hv)
  have CA : Hid (∀ v, Below w.heap.size w v → Calls Tryz.prog 68 #[.agg #[.int .i64 rn, .int .i64 cn, .slice (some ⟨b, o, none⟩) len cap], .slice (some ⟨hb, ho, none⟩) cn capn] v fun e w' => ∃ h, v.heap.size ≤ h ∧ e = .returned (.slice (some ⟨h, 0, none⟩) rn rn) ∧ Strs h rn (fun i => txt (mm cn X (fun j => strAt (f j)) i) m) rn w' ∧ Below v.heap.size v w') := Lib.hid (fun v hv =>
    applied_any rn cn b o len cap hb ho capn m X (fun j => strAt (f j)) hc1 hlen hcap (by omega) hmm v (hX.keep (hv.block b hbl)) (Nat.lt_of_lt_of_le hbl hv.size) ((h.keep (hv.block hb hhl)).col hm) (Nat.lt_of_lt_of_le hhl hv.size))
  have H := Lib.hid h
  clear hm h hlen hX
  go_enter Tryz.func40, Tryz.ntmps40
  go_wp2_with fail
  refine (Right_any rn cn _ len cap _).mono ?_
  rintro e w1 ⟨rfl, hb1⟩
  rw [hr]
  have HB1 := Lib.hid ((box1 w (.int .i64 rn) (.int .i64 cn) (.slice (some ⟨b, o, none⟩) len cap)).2.trans (hb1.mono (by simp)))
  obtain ⟨d0, d1, d2⟩ := heap_cell0 ((hb1.block _ (by simp)).trans (box1 w (.int .i64 rn) (.int .i64 cn) (.slice (some ⟨b, o, none⟩) len cap)).1)
  clear hb1
  go_wp2_with fail
  refine (H1.out _ (H.out.keep (HB1.out.block hb hhl))).mono ?_
  rintro e w' ⟨rfl, rfl⟩
  go_wp2_with fail
  refine (CA.out _ HB1.out).mono ?_
  rintro e w2 ⟨h2, hh, rfl, hs, hb2⟩
  have HS := Lib.hid hs
  have HB2 := Lib.hid (HB1.out.trans (hb2.mono HB1.out.size))
  have hw := Nat.le_trans HB1.out.size hh
  clear hs hb2 d0 d1 d2 CA
  go_wp2_with fail
  go_ret2
  exact ⟨h2, hw, rfl, HS.out, HB2.out⟩
end Go.Proofs.YteanbflbclmeeaaGreat
