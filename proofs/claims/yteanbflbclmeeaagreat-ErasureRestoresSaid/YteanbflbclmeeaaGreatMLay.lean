/- The walk of one table laid into another one. -/
import Derived.Test.YteanbflbclmeeaaGreatMMake
namespace Go.Proofs.YteanbflbclmeeaaGreat
open Go.RowKit

/-- The first n rows of X laid into M at a row and a column. -/
def layM (row col c2 n : Nat) (X M : Mat) : Mat := fun a b => if row ≤ a ∧ a < row + n ∧ col ≤ b ∧ b < col + c2 then X (a - row) (b - col) else M a b
theorem layM_zero (row col c2 : Nat) (X M : Mat) : layM row col c2 0 X M = M := by funext a b; unfold layM; rw [if_neg (by omega)]
def layRow (col c2 : Nat) (x f : Nat → UInt8) : Nat → UInt8 := fun b => if col ≤ b ∧ b < col + c2 then x (b - col) else f b
theorem layM_step (row col c2 n : Nat) (X M : Mat) : setRow (row + n) (layRow col c2 (X n) (layM row col c2 n X M (row + n))) (layM row col c2 n X M) = layM row col c2 (n + 1) X M := by
  funext a b
  unfold setRow
  by_cases h : a = row + n
  · subst h
    rw [if_pos rfl]
    unfold layRow layM
    by_cases hb : col ≤ b ∧ b < col + c2
    · rw [if_pos hb, if_pos (by omega), Nat.add_sub_cancel_left]
    · rw [if_neg hb, if_neg (by omega), if_neg (by omega)]
  · rw [if_neg h]
    unfold layM
    by_cases hb : row ≤ a ∧ a < row + n ∧ col ≤ b ∧ b < col + c2
    · rw [if_pos hb, if_pos (by omega)]
    · rw [if_neg hb, if_neg (by omega)]
theorem textOf_get (f : Nat → UInt8) (c k : Nat) (h : k < c) : (textOf f c)[k]? = some (f k) := by unfold textOf; rw [List.getElem?_map, List.getElem?_range h]; rfl
/-- A row's text taken apart. -/
theorem text_mid (col c2 c : Nat) (x f : Nat → UInt8) (h : col + c2 ≤ c) : textOf (layRow col c2 x f) c = (textOf f c).take col ++ (textOf x c2 ++ (textOf f c).drop (col + c2)) := by
  apply List.ext_getElem?
  intro k
  by_cases h1 : k < col
  · rw [List.getElem?_append_left (by rw [List.length_take, length_textOf]; omega), List.getElem?_take, if_pos h1, textOf_get _ _ _ (by omega), textOf_get _ _ _ (by omega)]
    unfold layRow; rw [if_neg (by omega)]
  · have hl : ((textOf f c).take col).length = col := by rw [List.length_take, length_textOf]; omega
    rw [List.getElem?_append_right (by omega), hl]
    by_cases h2 : k < col + c2
    · rw [List.getElem?_append_left (by rw [length_textOf]; omega), textOf_get _ _ _ (by omega), textOf_get _ _ _ (by omega)]
      unfold layRow; rw [if_pos (by omega)]
    · rw [List.getElem?_append_right (by rw [length_textOf]; omega), length_textOf, List.getElem?_drop, show col + c2 + (k - col - c2) = k by omega]
      by_cases h3 : k < c
      · rw [textOf_get _ _ _ h3, textOf_get _ _ _ h3]
        unfold layRow; rw [if_neg (by omega)]
      · rw [List.getElem?_eq_none (by rw [length_textOf]; omega), List.getElem?_eq_none (by rw [length_textOf]; omega)]
theorem layRow_self (col c2 : Nat) (f : Nat → UInt8) : layRow col c2 (fun b => f (col + b)) f = f := by
  funext b; unfold layRow; split
  · rename_i h
    show f (col + (b - col)) = f b
    rw [show col + (b - col) = b by omega]
  · rfl
/-- The block of a table, a part of a row apart. -/
theorem Tab.inner {g : Nat} {M : Mat} {r c : Nat} {w : World} (h : Tab g M r c w) {i : Nat} (hi : i < r) {col c2 : Nat} (hc : col + c2 ≤ c) :
    w.heap[g]? = some (.cells (((ahead M r c i).map u8v ++ ((textOf (M i) c).take col).map u8v) ++ ((textOf (fun b => M i (col + b)) c2).map u8v ++ (((textOf (M i) c).drop (col + c2)).map u8v ++ (behind M r c i).map u8v))).toArray 5 (0, 0)) := by
  have h1 := h.parts hi
  have h2 := text_mid col c2 c (fun b => M i (col + b)) (M i) hc
  rw [layRow_self] at h2
  rw [h1]
  congr 2
  conv => lhs; rw [h2]
  simp only [List.map_append, List.append_assoc]
theorem Tab.of_inner {g : Nat} {M : Mat} {r c : Nat} {w : World} {i : Nat} (hi : i < r) {col c2 : Nat} (hc : col + c2 ≤ c) (x : Nat → UInt8)
    (h : w.heap[g]? = some (.cells (((ahead M r c i).map u8v ++ ((textOf (M i) c).take col).map u8v) ++ ((textOf x c2).map u8v ++ (((textOf (M i) c).drop (col + c2)).map u8v ++ (behind M r c i).map u8v))).toArray 5 (0, 0))) : Tab g (setRow i (layRow col c2 x (M i)) M) r c w := by
  refine Tab.of_parts hi _ ?_
  rw [h, text_mid col c2 c x (M i) hc]
  simp only [List.map_append, List.append_assoc]
/-- Boxes with both tables. -/
structure TwoS (T2 : TypeId) (B g r c N B2 b o r2 c2 len cap : Nat) (X M : Mat) (w0 v : World) : Prop where
  one : BoxS B g r c N M w0 v
  two : v.heap[B2]? = some (.cells [Value.int .i64 r2, .int .i64 c2, .slice (some ⟨b, o, none⟩) len cap].toArray T2 (0, 0))
  src : Src b o X r2 c2 v
  lt : b < v.heap.size
  ne : b ≠ g
  ne2 : B2 ≠ g
theorem TwoS.below {T2 : TypeId} {B g r c N B2 b o r2 c2 len cap : Nat} {X M : Mat} {w0 v v' : World} (h : TwoS T2 B g r c N B2 b o r2 c2 len cap X M w0 v) (hb : Below v.heap.size v v') : TwoS T2 B g r c N B2 b o r2 c2 len cap X M w0 v' :=
  ⟨h.one.below hb, (hb.block _ (lt_of_heap h.two)).trans h.two, h.src.keep (hb.block _ h.lt), Nat.lt_of_lt_of_le h.lt hb.size, h.ne, h.ne2⟩
theorem TwoS.drew {T2 : TypeId} {B g r c N B2 b o r2 c2 len cap : Nat} {X M : Mat} {w0 v : World} (h : TwoS T2 B g r c N B2 b o r2 c2 len cap X M w0 v) : TwoS T2 B g r c N B2 b o r2 c2 len cap X M w0 v.drew :=
  ⟨h.one.drew, h.two, h.src, h.lt, h.ne, h.ne2⟩
theorem TwoS.change {T2 : TypeId} {B g r c N B2 b o r2 c2 len cap : Nat} {X M M' : Mat} {w0 v v' : World} (h : TwoS T2 B g r c N B2 b o r2 c2 len cap X M w0 v) (ht : Tab g M' r c v') (hk : Kept v.heap.size [g] v v') : TwoS T2 B g r c N B2 b o r2 c2 len cap X M' w0 v' :=
  ⟨h.one.change ht hk, (hk.block _ (lt_of_heap h.two) (by simp; exact h.ne2)).trans h.two, h.src.keep (hk.block _ h.lt (by simp; exact h.ne)), Nat.lt_of_lt_of_le h.lt hk.size, h.ne, h.ne2⟩
theorem heap_cell0 {w : World} {B : Nat} {x y z : Value} {T : TypeId} (h : w.heap[B]? = some (.cells [x, y, z].toArray T (0, 0))) : w.cell? ⟨B, 0, none⟩ = some x ∧ w.cell? ⟨B, 1, none⟩ = some y ∧ w.cell? ⟨B, 2, none⟩ = some z :=
  ⟨by rw [cell_of_list h]; rfl, by rw [cell_of_list h]; rfl, by rw [cell_of_list h]; rfl⟩
set_option maxRecDepth 20000 in
set_option maxHeartbeats 2000000 in
theorem lay_any (g r c N b o r2 c2 len cap row col : Nat) (X M : Mat) (hN : r * c = N) (hmax : N ≤ 1000000) (hc0 : 1 ≤ c2) (hrow : row + r2 ≤ r) (hcol : col + c2 ≤ c) (hlen : r2 * c2 = len) (hcap : len ≤ cap) (hlm : len ≤ 1000000)
    (hne : b ≠ g) (w : World) (h : Tab g M r c w) (hX : Src b o X r2 c2 w) (hbl : b < w.heap.size) :
    Calls Tryz.prog 63 #[tabV g r c N, .agg #[.int .i64 r2, .int .i64 c2, .slice (some ⟨b, o, none⟩) len cap], .int .i64 row, .int .i64 col] w fun e w' => e = .returned (.tuple #[]) ∧ Tab g (layM row col c2 r2 X M) r c w' ∧ Kept w.heap.size [g] w w' := by
  have hr2 : r2 ≤ len := by rw [← hlen]; exact Nat.le_mul_of_pos_right r2 hc0
  have hrN : r ≤ N := by rw [← hN]; exact Nat.le_mul_of_pos_right r (by omega)
  have hb : TwoS 104 w.heap.size g r c N (w.heap.size + 1) b o r2 c2 len cap X M w ((w.alloc (.cells (tabRow g r c N).toArray 104)).alloc (.cells [Value.int .i64 r2, .int .i64 c2, .slice (some ⟨b, o, none⟩) len cap].toArray 104)) := by
    have hg := h.lt
    have b1 := (BoxS.of_alloc (N := N) h).below ((Below.refl _ (w.alloc (.cells (tabRow g r c N).toArray 104))).alloc (Nat.le_refl _) (.cells [Value.int .i64 r2, .int .i64 c2, .slice (some ⟨b, o, none⟩) len cap].toArray 104))
    refine ⟨b1, ?_, hX.keep ?_, by simp; omega, hne, by omega⟩
    · have := heap_alloc_new (w.alloc (.cells (tabRow g r c N).toArray 104)) (.cells [Value.int .i64 r2, .int .i64 c2, .slice (some ⟨b, o, none⟩) len cap].toArray 104)
      rw [World.size_alloc] at this; exact this
    · rw [heap_alloc_old _ _ (by simp; omega), heap_alloc_old _ _ hbl]
  have z0 := (heap_cell0 hb.two).1
  have HB := Lib.hid hb
  have HN := Lib.hid hN
  have HLEN := Lib.hid hlen
  clear hb hN hlen h hX
  unfold tabV
  go_enter Tryz.func63, Tryz.ntmps63
  go_wp2_with fail
  go_loopw [11] (fun iv wr => ∃ i : Nat, i ≤ r2 ∧ iv = .int .i64 i ∧ TwoS 104 w.heap.size g r c N (w.heap.size + 1) b o r2 c2 len cap X (layM row col c2 i X M) w wr) (fun iv _ => r2 - (intOf iv).toNat)
  case atStart => exact ⟨0, by omega, rfl, by rw [layM_zero]; exact HB.out⟩
  case round =>
    clear HB z0
    obtain ⟨i, hi, rfl, hB⟩ := hrel
    have H1 := Lib.hid hB
    clear hB
    by_cases hlt : i < r2
    · obtain ⟨k, hk⟩ : ∃ k, k = row + i := ⟨_, rfl⟩
      obtain ⟨A, hA⟩ : ∃ A, k * c = A := ⟨_, rfl⟩
      obtain ⟨D, hD⟩ : ∃ D, i * c2 = D := ⟨_, rfl⟩
      obtain ⟨M', hM'⟩ : ∃ M', M' = layM row col c2 i X M := ⟨_, rfl⟩
      have hri : k < r := by omega
      have fA := row_fits HN.out hA hri
      have fD := row_fits HLEN.out hD hlt
      obtain ⟨S, hS⟩ : ∃ S, S = TwoS 104 w.heap.size g r c N (w.heap.size + 1) b o r2 c2 len cap X M' w := ⟨_, rfl⟩
      have h1 : S wr := by rw [hS, hM']; exact H1.out
      have hSb : ∀ v v', S v → Below v.heap.size v v' → S v' := by rw [hS]; exact fun v v' hv hb => hv.below hb
      have c0 : ∀ u : Of S, u.w.cell? ⟨w.heap.size, 0, none⟩ = some (.int .i64 r) := by rw [hS]; exact fun u => u.ok.one.c0
      have c1 : ∀ u : Of S, u.w.cell? ⟨w.heap.size, 1, none⟩ = some (.int .i64 c) := by rw [hS]; exact fun u => u.ok.one.c1
      have c2' : ∀ u : Of S, u.w.cell? ⟨w.heap.size, 2, none⟩ = some (.slice (some ⟨g, 0, none⟩) N N) := by rw [hS]; exact fun u => u.ok.one.c2
      have k0 : ∀ u : Of S, u.w.cell? ⟨w.heap.size + 1, 0, none⟩ = some (.int .i64 r2) := by rw [hS]; exact fun u => (heap_cell0 u.ok.two).1
      have k1 : ∀ u : Of S, u.w.cell? ⟨w.heap.size + 1, 1, none⟩ = some (.int .i64 c2) := by rw [hS]; exact fun u => (heap_cell0 u.ok.two).2.1
      have k2 : ∀ u : Of S, u.w.cell? ⟨w.heap.size + 1, 2, none⟩ = some (.slice (some ⟨b, o, none⟩) len cap) := by rw [hS]; exact fun u => (heap_cell0 u.ok.two).2.2
      have R1 := Lib.hid (quiet_S hSb (fun v _ => trow_any g r c N k A hA fA hmax (by omega) v))
      have R2 := Lib.hid (quiet_S hSb (fun v _ => row_any r2 c2 b o len cap i D hD (by omega) (by omega) hc0 (by omega) (by omega) v))
      have hsum : IntKind.i64.wrap ((row : Int) + (i : Int)) = (k : Int) := by rw [IntWalk.i64_in _ (by omega)]; omega
      haveI : Nonempty (Of S) := ⟨⟨_, h1⟩⟩
      have HH := Lib.hid h1
      have HS := Lib.hid hS
      have HA := Lib.hid hA
      have HD := Lib.hid hD
      have HM := Lib.hid hM'
      have HK := Lib.hid hk
      clear h1 hS hA hD hM' hSb hk
      go_wp2_with fail
      refine wp_region_S_tail S (by kernel_rfl) rfl (copy_same (d := 20) (s := 23) (k := 24) rfl rfl (by decide) (by decide)) (by kernel_rfl) (by kernel_rfl) (by kernel_rfl) (by rw [HS.out]; have := HH.out; rw [HS.out] at this; exact this.drew) ?_
      simp only [initL, lastL, List.cons_append, List.nil_append, Oper.mute]
      repeat (go_big_quiet_step (first | (go_at_call 60; first | (with_reducible exact R1.out _) | (with_reducible exact R2.out _))))
      refine wpQuiet_nil ?_
      rintro w2 ⟨u2, e2⟩
      have h2 : S w2 := e2 ▸ u2.ok
      rw [HS.out] at h2
      have H2 := Lib.hid h2
      clear e2 u2 h2 c0 c1 c2' k0 k1 k2 R1 R2 this HH
      refine ends_copy_row (.tmp 20) (.tmp 23) 60 60 rfl 5 Tryz.underlying60 (by kernel_rfl) g (A + col) (c - col) (N - A - col) b (o + D) c2 (cap - D) c2 rfl rfl (Nat.min_eq_left (by omega)).symm ((textOf (X i) c2).map u8v) (by rw [u8v_len, length_textOf]) (by have := H2.out.src.row hlt; rw [HD.out] at this; exact this) (fun v hv => by obtain ⟨x, _, rfl⟩ := List.mem_map.1 hv; rfl) _ _ _ 5 (H2.out.one.tab.inner hri hcol) (by rw [List.length_append, u8v_len, u8v_len, length_ahead M' hri, HA.out, List.length_take, length_textOf, Nat.min_eq_left (by omega)]) (by rw [u8v_len, length_textOf]) ?_
      intro w3 hg3 hk3
      have H3 := Lib.hid (H2.out.change (Tab.of_inner hri hcol _ hg3.out) hk3.out)
      simp only [Act.put, List.setIfInBounds_toArray, List.set_cons_zero, List.set_cons_succ]
      clear hg3 hk3
      go_wp2_with fail
      go_roundw
      case rel => exact ⟨i + 1, by omega, by go_num, by rw [← layM_step, ← HM.out, ← HK.out]; exact H3.out⟩
      case measure => simp [intOf]; omega
    · obtain rfl : i = r2 := by omega
      have z0 := (heap_cell0 H1.out.two).1
      go_wp2_with fail
      go_end0
      exact ⟨rfl, H1.out.one.tab, H1.out.one.old⟩
end Go.Proofs.YteanbflbclmeeaaGreat
