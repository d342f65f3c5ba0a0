/- The program's digits and names; what a letter of a form stands for. -/
import Derived.Test.YtllboegemooeoaaYRef4
namespace Go.Proofs.Ytllboegemooeoaa
open Go.RowKit

theorem wpList_make_list {P : Program} {w : World} {ops : Array Oper} {rest : List Oper} {o : Oper} {a : Act} {Q : Exit → Act → World → Prop} (hgd : o.guard = none) (t : TypeId) (x y : Operand) (ho : o.op = .makeSlice t x y)
    (e : TypeId) (i : TypeInfo) (z : Value) (bytes : Nat) (ht : P.underlying t = some (.slice e)) (hi : P.info? e = some i) (hz : i.zero = some z) (hsz : i.size = 1) (hby : i.bytes = bytes) (hone : z.cells = #[z])
    (n : Nat) (hx : a.eval x = .int .i64 n) (hy : a.eval y = .int .i64 n) (hbytes : bytes * n ≤ 281474976710656) (hmax : n ≤ 9223372036854775807)
    (h : ∀ w', Hid (w'.heap[w.heap.size]? = some (.cells (List.replicate n z).toArray e (0, 0))) → Hid (Below w.heap.size w w') →
      wpList P ops Q rest (a.put o.dst (.slice (some ⟨w.heap.size, 0, none⟩) n n)) w') : wpList P ops Q (o :: rest) a w := by
  refine wpList_run hgd _ (w.alloc (.cells (List.replicate n z).toArray e)) ?_ (h _ (Lib.hid (heap_alloc_new _ _)) (Lib.hid ((Below.refl _ _).alloc (Nat.le_refl _) _)))
  have hrun := run_make (P := P) w t e i z ht hi hz .i64 .i64 (n : Int) (n : Int) (by omega) (by omega) (by rw [hby]; omega) (by omega)
  have hm : madeCells z.cells ((n : Int).toNat * i.size) = (List.replicate n z).toArray := by
    rw [hone, hsz]
    apply Array.toList_inj.1
    rw [toList_madeCells_one]; simp
  rw [hm] at hrun
  simp only [Int.toNat_natCast] at hrun
  unfold execOp
  simp only [ho, hx, hy, Sem.run_bind, hrun, Result.andThen_ok]
  rfl
/-- The digits that are laid, from the end on. -/
def part (j : Nat) (l : List UInt8) : List Value := List.replicate j (.int .u8 0) ++ l.map u8v
theorem part_len (j : Nat) (l : List UInt8) : (part j l).length = j + l.length := by simp [part]
theorem part_set (j : Nat) (l : List UInt8) (x : UInt8) : (part (j + 1) l).set j (u8v x) = part j (x :: l) := by
  unfold part
  rw [List.replicate_succ', List.append_assoc, List.set_append_right _ _ (by simp)]
  simp
theorem part_get (j : Nat) (l : List UInt8) : (part (j + 1) l)[j]? = some (.int .u8 0) := by
  unfold part
  rw [List.getElem?_append_left (by simp), List.getElem?_replicate]; simp
theorem dg_val (n : Nat) : Value.int .u8 (48 + (n : Int) % 10) = u8v (Mo.dg n) := int_eq_u8v (by rw [Mo.dg_toNat]; omega)
set_option maxRecDepth 100000 in
set_option maxHeartbeats 1000000 in
theorem ydigits_any (n many : Nat) (hn : n < 4611686018427387904) (hm : many ≤ 100) (hm1 : 1 ≤ many) (w : World) : Calls Try.prog 43 #[.int .i64 n, .int .i64 many] w fun e w' => e = .returned (.string (bs (Mo.dgs many n))) ∧ Below w.heap.size w w' := by
  obtain ⟨i0, hi, hz0, hz1, hz2⟩ := info_parts infoByte
  obtain ⟨T, hT⟩ : ∃ T, T = Mo.dgs many n := ⟨_, rfl⟩
  rw [← hT]
  have HT := Lib.hid hT
  clear hT
  go_enter Try.func43, Try.ntmps43
  go_wp2_with (refine wpList_make_list rfl 52 _ _ rfl 5 i0 (.int .u8 0) 1 Try.underlying52 hi hz0 hz1 hz2 rfl many rfl rfl (by omega) (by omega) ?_; intro w1 hg hb; go_frame)
  go_loopw [0, 6] (fun nv iv wr => ∃ (j x : Nat) (l : List UInt8), j ≤ many ∧ nv = .int .i64 x ∧ iv = .int .i64 ((j : Int) - 1) ∧ x ≤ n ∧ Hid (l.length + j = many) ∧ Hid (T = Mo.dgs j x ++ l) ∧ Hid (wr.heap[w.heap.size]? = some (.cells (part j l).toArray 5 (0, 0))) ∧ Hid (Below w.heap.size w wr)) (fun _ iv _ => (intOf iv + 1).toNat)
  case atStart => exact ⟨many, n, [], by omega, rfl, rfl, by omega, Lib.hid (by simp), Lib.hid (by rw [HT.out, List.append_nil]), by rw [show part many [] = List.replicate many (.int .u8 0) by simp [part]]; exact hg, hb⟩
  case round =>
    clear hg hb
    obtain ⟨j, x, l, hj, rfl, rfl, hx, hll, hl, hg, hb⟩ := hrel
    by_cases hlt : 1 ≤ j
    · obtain ⟨j, rfl⟩ : ∃ k, j = k + 1 := ⟨j - 1, by omega⟩
      have e1 : (((j + 1 : Nat) : Int) - 1) = (j : Int) := by omega
      rw [e1]
      have c0 := cell_of_list hg.out j
      rw [part_get] at c0
      have f0 := free_of_list hg.out j
      go_wp2_with fail
      go_roundw
      case rel =>
        refine ⟨j, x / 10, Mo.dg x :: l, by omega, by go_num, rfl, by omega, Lib.hid (by have := hll.out; simp; omega), Lib.hid ?_, Lib.hid ?_, Lib.hid (hb.out.setCell (Nat.le_refl _) _)⟩
        · rw [hl.out, Mo.dgs, List.append_assoc]; rfl
        · rw [dg_val, ← part_set]; exact set_list hg.out j _
      case measure => (simp [intOf]; try omega)
    · obtain rfl : j = 0 := by omega
      have hlm : l.length = many := by have := hll.out; omega
      have hr := range_of_list hg.out
      rw [show part 0 l = l.map u8v by simp [part]] at hr
      have HR := Lib.hid hr
      clear hr
      go_wp2_with (refine wpList_bytes_string rfl 52 9 _ rfl 5 w.heap.size 0 many many rfl l hlm Try.underlying52 Try.underlying5 Try.underlying9 HR.out ?_; go_frame)
      go_ret
      refine ⟨?_, hb.out⟩
      rw [hl.out, show Mo.dgs 0 x ++ l = l from rfl, ← bs_eq]
      rfl
theorem yname_at (l : List UInt8) (i : Nat) (h : 3 * i + 3 ≤ l.length) (hi : i < 100) (w : World) : Calls Try.prog 44 #[.string (bs l), .int .i64 i] w fun e w' => e = .returned (.string (bs ((l.drop (3 * i)).take 3))) ∧ w' = w := by
  obtain ⟨A, hA⟩ : ∃ A, A = l.drop (3 * i) := ⟨_, rfl⟩
  have r1 : ∀ v : World, (Instr.slice 9 (.string (bs l)) (some (.int .i64 ((i : Int) * 3))) none none).run Try.prog v = .ok (.string (bs A)) v := fun v => by
    have := run_rest_string (P := Try.prog) v 9 (bs l) .i64 (3 * i) Try.underlying9 (by rw [bs_size]; omega)
    rw [show ((i : Int) * 3) = ((3 * i : Nat) : Int) by omega, this]
    congr 2
    exact bs_of (by rw [extract_from, bs_list, hA])
  have r2 : ∀ v : World, (Instr.slice 9 (.string (bs A)) none (some (.int .i64 3)) none).run Try.prog v = .ok (.string (bs (A.take 3))) v := fun v => by
    have := run_first_string (P := Try.prog) v 9 (bs A) .i64 3 Try.underlying9 (by rw [bs_size, hA, List.length_drop]; omega)
    rw [show ((3 : Int)) = ((3 : Nat) : Int) by omega, this]
    congr 2
    exact bs_of (by rw [extract_to, bs_list])
  rw [← hA]
  clear hA h
  go_enter Try.func44, Try.ntmps44
  go_wp2_with fail
  go_ret
  exact ⟨rfl, rfl⟩
theorem cut_w2 : ∀ a < 7, (Mo.dnm.drop (3 * a)).take 3 = Mo.nm Mo.dnm a := by decide
theorem cut_m2 : ∀ m < 12, (Mo.mnm.drop (3 * m)).take 3 = Mo.nm Mo.mnm m := by decide
theorem yname_w (a : Nat) (h : a < 7) (w : World) : Calls Try.prog 44 #[.string (bs Mo.dnm), .int .i64 a] w fun e w' => e = .returned (.string (bs (Mo.nm Mo.dnm a))) ∧ w' = w := by
  rw [← cut_w2 a h]
  exact yname_at Mo.dnm a (by show 3 * a + 3 ≤ 21; omega) (by omega) w
theorem yname_m (m : Nat) (h : m < 12) (w : World) : Calls Try.prog 44 #[.string (bs Mo.mnm), .int .i64 m] w fun e w' => e = .returned (.string (bs (Mo.nm Mo.mnm m))) ∧ w' = w := by
  rw [← cut_m2 m h]
  exact yname_at Mo.mnm m (by show 3 * m + 3 ≤ 36; omega) (by omega) w
theorem lit_dn2 : (⟨#[83, 117, 110, 77, 111, 110, 84, 117, 101, 87, 101, 100, 84, 104, 117, 70, 114, 105, 83, 97, 116]⟩ : ByteArray) = bs Mo.dnm := lit_dn
theorem lit_mn2 : (⟨#[74, 97, 110, 70, 101, 98, 77, 97, 114, 65, 112, 114, 77, 97, 121, 74, 117, 110, 74, 117, 108, 65, 117, 103, 83, 101, 112, 79, 99, 116, 78, 111, 118, 68, 101, 99]⟩ : ByteArray) = bs Mo.mnm := lit_mn
attribute [local go_sem high] lit_dn2 lit_mn2
theorem run_head {P : Program} (w : World) (t : TypeId) (k : IntKind) (c : UInt8) (r : List UInt8) (h : P.underlying t = some .string) :
    (Instr.index t (.string (bs (c :: r))) (.int k 0)).run P w = .ok (.int .u8 (c.toNat : Int)) w := by
  have := run_index_byte (P := P) w t (bs (c :: r)) k 0 h (by rw [bs_size]; simp)
  rw [strAt_eq, bs_list] at this
  exact this
theorem u8_is {c : UInt8} {n : Nat} (h : c.toNat = n) : ((c.toNat : Int) == (n : Int)) = true := by rw [h]; simp
theorem u8_not {c : UInt8} {n : Nat} (h : c.toNat ≠ n) : ((c.toNat : Int) == (n : Int)) = false := by simp; omega
/-- What a moment shows, and the bounds of it. -/
structure Face (y m d t : Nat) : Prop where
  y : y ≤ 9999
  m1 : 1 ≤ m
  m2 : m ≤ 12
  d : d ≤ 31
  t : t < 253402300800
set_option maxRecDepth 100000 in
theorem yfield_121 (y m d t : Nat) (hf : Face y m d t) (c : UInt8) (hc : c.toNat = 121) (r : List UInt8) (w : World) : Calls Try.prog 36 #[.agg #[.int .i64 y, .int .i64 m, .int .i64 d, .int .i64 t], .string (bs (c :: r))] w fun e w' => e = .returned (.string (bs (Mo.d4 (y)))) ∧ Below w.heap.size w w' := by
  have hy := hf.y; have hm1 := hf.m1; have hm2 := hf.m2; have hd := hf.d; have ht := hf.t
  have C := Lib.hid (show ∀ v : World, Calls Try.prog 43 #[.int .i64 (y), .int .i64 4] v fun e w' => e = .returned (.string (bs (Mo.d4 (y)))) ∧ Below v.heap.size v w' from fun v => by
    have h := ydigits_any (y) 4 (by omega) (by omega) (by omega) v
    rw [show ((y : Nat) : Int) = y by omega] at h
    rw [Mo.dgs_4] at h
    exact h)
  have q121 : ((c.toNat : Int) == 121) = true := u8_is (n := 121) hc
  have HR : ∀ v : World, (Instr.index 9 (.string (bs (c :: r))) (.int .i64 0)).run Try.prog v = .ok (.int .u8 (c.toNat : Int)) v := fun v => run_head v _ _ _ _ Try.underlying9
  obtain ⟨X, hX⟩ : ∃ X, X = bs (Mo.d4 (y)) := ⟨_, rfl⟩
  rw [← hX] at C ⊢
  obtain ⟨F, hF⟩ : ∃ F, F = bs (c :: r) := ⟨_, rfl⟩
  rw [← hF] at HR ⊢
  clear hX hF hc hf
  go_enter Try.func36, Try.ntmps36
  go_wp2_with (go_at_call 43; refine (C.out _).mono ?_; rintro e w' ⟨rfl, hb⟩)
  go_ret
  exact ⟨rfl, ((Below.refl _ _).alloc (Nat.le_refl _) _).trans (hb.mono (by simp))⟩
set_option maxRecDepth 100000 in
theorem yfield_109 (y m d t : Nat) (hf : Face y m d t) (c : UInt8) (hc : c.toNat = 109) (r : List UInt8) (w : World) : Calls Try.prog 36 #[.agg #[.int .i64 y, .int .i64 m, .int .i64 d, .int .i64 t], .string (bs (c :: r))] w fun e w' => e = .returned (.string (bs (Mo.d2 (m)))) ∧ Below w.heap.size w w' := by
  have hy := hf.y; have hm1 := hf.m1; have hm2 := hf.m2; have hd := hf.d; have ht := hf.t
  have C := Lib.hid (show ∀ v : World, Calls Try.prog 43 #[.int .i64 (m), .int .i64 2] v fun e w' => e = .returned (.string (bs (Mo.d2 (m)))) ∧ Below v.heap.size v w' from fun v => by
    have h := ydigits_any (m) 2 (by omega) (by omega) (by omega) v
    rw [show ((m : Nat) : Int) = m by omega] at h
    exact h)
  have q121 : ((c.toNat : Int) == 121) = false := u8_not (n := 121) (by omega)
  have q109 : ((c.toNat : Int) == 109) = true := u8_is (n := 109) hc
  have HR : ∀ v : World, (Instr.index 9 (.string (bs (c :: r))) (.int .i64 0)).run Try.prog v = .ok (.int .u8 (c.toNat : Int)) v := fun v => run_head v _ _ _ _ Try.underlying9
  obtain ⟨X, hX⟩ : ∃ X, X = bs (Mo.d2 (m)) := ⟨_, rfl⟩
  rw [← hX] at C ⊢
  obtain ⟨F, hF⟩ : ∃ F, F = bs (c :: r) := ⟨_, rfl⟩
  rw [← hF] at HR ⊢
  clear hX hF hc hf
  go_enter Try.func36, Try.ntmps36
  go_wp2_with (go_at_call 43; refine (C.out _).mono ?_; rintro e w' ⟨rfl, hb⟩)
  go_ret
  exact ⟨rfl, ((Below.refl _ _).alloc (Nat.le_refl _) _).trans (hb.mono (by simp))⟩
set_option maxRecDepth 100000 in
theorem yfield_100 (y m d t : Nat) (hf : Face y m d t) (c : UInt8) (hc : c.toNat = 100) (r : List UInt8) (w : World) : Calls Try.prog 36 #[.agg #[.int .i64 y, .int .i64 m, .int .i64 d, .int .i64 t], .string (bs (c :: r))] w fun e w' => e = .returned (.string (bs (Mo.d2 (d)))) ∧ Below w.heap.size w w' := by
  have hy := hf.y; have hm1 := hf.m1; have hm2 := hf.m2; have hd := hf.d; have ht := hf.t
  have C := Lib.hid (show ∀ v : World, Calls Try.prog 43 #[.int .i64 (d), .int .i64 2] v fun e w' => e = .returned (.string (bs (Mo.d2 (d)))) ∧ Below v.heap.size v w' from fun v => by
    have h := ydigits_any (d) 2 (by omega) (by omega) (by omega) v
    rw [show ((d : Nat) : Int) = d by omega] at h
    exact h)
  have q121 : ((c.toNat : Int) == 121) = false := u8_not (n := 121) (by omega)
  have q109 : ((c.toNat : Int) == 109) = false := u8_not (n := 109) (by omega)
  have q100 : ((c.toNat : Int) == 100) = true := u8_is (n := 100) hc
  have HR : ∀ v : World, (Instr.index 9 (.string (bs (c :: r))) (.int .i64 0)).run Try.prog v = .ok (.int .u8 (c.toNat : Int)) v := fun v => run_head v _ _ _ _ Try.underlying9
  obtain ⟨X, hX⟩ : ∃ X, X = bs (Mo.d2 (d)) := ⟨_, rfl⟩
  rw [← hX] at C ⊢
  obtain ⟨F, hF⟩ : ∃ F, F = bs (c :: r) := ⟨_, rfl⟩
  rw [← hF] at HR ⊢
  clear hX hF hc hf
  go_enter Try.func36, Try.ntmps36
  go_wp2_with (go_at_call 43; refine (C.out _).mono ?_; rintro e w' ⟨rfl, hb⟩)
  go_ret
  exact ⟨rfl, ((Below.refl _ _).alloc (Nat.le_refl _) _).trans (hb.mono (by simp))⟩
set_option maxRecDepth 100000 in
theorem yfield_104 (y m d t : Nat) (hf : Face y m d t) (c : UInt8) (hc : c.toNat = 104) (r : List UInt8) (w : World) : Calls Try.prog 36 #[.agg #[.int .i64 y, .int .i64 m, .int .i64 d, .int .i64 t], .string (bs (c :: r))] w fun e w' => e = .returned (.string (bs (Mo.d2 (t / 3600 % 24)))) ∧ Below w.heap.size w w' := by
  have hy := hf.y; have hm1 := hf.m1; have hm2 := hf.m2; have hd := hf.d; have ht := hf.t
  have C := Lib.hid (show ∀ v : World, Calls Try.prog 43 #[.int .i64 ((t : Int) / 3600 % 24), .int .i64 2] v fun e w' => e = .returned (.string (bs (Mo.d2 (t / 3600 % 24)))) ∧ Below v.heap.size v w' from fun v => by
    have h := ydigits_any (t / 3600 % 24) 2 (by omega) (by omega) (by omega) v
    rw [show ((t / 3600 % 24 : Nat) : Int) = (t : Int) / 3600 % 24 by omega] at h
    exact h)
  have q121 : ((c.toNat : Int) == 121) = false := u8_not (n := 121) (by omega)
  have q109 : ((c.toNat : Int) == 109) = false := u8_not (n := 109) (by omega)
  have q100 : ((c.toNat : Int) == 100) = false := u8_not (n := 100) (by omega)
  have q104 : ((c.toNat : Int) == 104) = true := u8_is (n := 104) hc
  have HR : ∀ v : World, (Instr.index 9 (.string (bs (c :: r))) (.int .i64 0)).run Try.prog v = .ok (.int .u8 (c.toNat : Int)) v := fun v => run_head v _ _ _ _ Try.underlying9
  obtain ⟨X, hX⟩ : ∃ X, X = bs (Mo.d2 (t / 3600 % 24)) := ⟨_, rfl⟩
  rw [← hX] at C ⊢
  obtain ⟨F, hF⟩ : ∃ F, F = bs (c :: r) := ⟨_, rfl⟩
  rw [← hF] at HR ⊢
  clear hX hF hc hf
  go_enter Try.func36, Try.ntmps36
  go_wp2_with (go_at_call 43; refine (C.out _).mono ?_; rintro e w' ⟨rfl, hb⟩)
  go_ret
  exact ⟨rfl, ((Below.refl _ _).alloc (Nat.le_refl _) _).trans (hb.mono (by simp))⟩
set_option maxRecDepth 100000 in
theorem yfield_105 (y m d t : Nat) (hf : Face y m d t) (c : UInt8) (hc : c.toNat = 105) (r : List UInt8) (w : World) : Calls Try.prog 36 #[.agg #[.int .i64 y, .int .i64 m, .int .i64 d, .int .i64 t], .string (bs (c :: r))] w fun e w' => e = .returned (.string (bs (Mo.d2 (t / 60 % 60)))) ∧ Below w.heap.size w w' := by
  have hy := hf.y; have hm1 := hf.m1; have hm2 := hf.m2; have hd := hf.d; have ht := hf.t
  have C := Lib.hid (show ∀ v : World, Calls Try.prog 43 #[.int .i64 ((t : Int) / 60 % 60), .int .i64 2] v fun e w' => e = .returned (.string (bs (Mo.d2 (t / 60 % 60)))) ∧ Below v.heap.size v w' from fun v => by
    have h := ydigits_any (t / 60 % 60) 2 (by omega) (by omega) (by omega) v
    rw [show ((t / 60 % 60 : Nat) : Int) = (t : Int) / 60 % 60 by omega] at h
    exact h)
  have q121 : ((c.toNat : Int) == 121) = false := u8_not (n := 121) (by omega)
  have q109 : ((c.toNat : Int) == 109) = false := u8_not (n := 109) (by omega)
  have q100 : ((c.toNat : Int) == 100) = false := u8_not (n := 100) (by omega)
  have q104 : ((c.toNat : Int) == 104) = false := u8_not (n := 104) (by omega)
  have q105 : ((c.toNat : Int) == 105) = true := u8_is (n := 105) hc
  have HR : ∀ v : World, (Instr.index 9 (.string (bs (c :: r))) (.int .i64 0)).run Try.prog v = .ok (.int .u8 (c.toNat : Int)) v := fun v => run_head v _ _ _ _ Try.underlying9
  obtain ⟨X, hX⟩ : ∃ X, X = bs (Mo.d2 (t / 60 % 60)) := ⟨_, rfl⟩
  rw [← hX] at C ⊢
  obtain ⟨F, hF⟩ : ∃ F, F = bs (c :: r) := ⟨_, rfl⟩
  rw [← hF] at HR ⊢
  clear hX hF hc hf
  go_enter Try.func36, Try.ntmps36
  go_wp2_with (go_at_call 43; refine (C.out _).mono ?_; rintro e w' ⟨rfl, hb⟩)
  go_ret
  exact ⟨rfl, ((Below.refl _ _).alloc (Nat.le_refl _) _).trans (hb.mono (by simp))⟩
set_option maxRecDepth 100000 in
theorem yfield_115 (y m d t : Nat) (hf : Face y m d t) (c : UInt8) (hc : c.toNat = 115) (r : List UInt8) (w : World) : Calls Try.prog 36 #[.agg #[.int .i64 y, .int .i64 m, .int .i64 d, .int .i64 t], .string (bs (c :: r))] w fun e w' => e = .returned (.string (bs (Mo.d2 (t % 60)))) ∧ Below w.heap.size w w' := by
  have hy := hf.y; have hm1 := hf.m1; have hm2 := hf.m2; have hd := hf.d; have ht := hf.t
  have C := Lib.hid (show ∀ v : World, Calls Try.prog 43 #[.int .i64 ((t : Int) % 60), .int .i64 2] v fun e w' => e = .returned (.string (bs (Mo.d2 (t % 60)))) ∧ Below v.heap.size v w' from fun v => by
    have h := ydigits_any (t % 60) 2 (by omega) (by omega) (by omega) v
    rw [show ((t % 60 : Nat) : Int) = (t : Int) % 60 by omega] at h
    exact h)
  have q121 : ((c.toNat : Int) == 121) = false := u8_not (n := 121) (by omega)
  have q109 : ((c.toNat : Int) == 109) = false := u8_not (n := 109) (by omega)
  have q100 : ((c.toNat : Int) == 100) = false := u8_not (n := 100) (by omega)
  have q104 : ((c.toNat : Int) == 104) = false := u8_not (n := 104) (by omega)
  have q105 : ((c.toNat : Int) == 105) = false := u8_not (n := 105) (by omega)
  have q115 : ((c.toNat : Int) == 115) = true := u8_is (n := 115) hc
  have HR : ∀ v : World, (Instr.index 9 (.string (bs (c :: r))) (.int .i64 0)).run Try.prog v = .ok (.int .u8 (c.toNat : Int)) v := fun v => run_head v _ _ _ _ Try.underlying9
  obtain ⟨X, hX⟩ : ∃ X, X = bs (Mo.d2 (t % 60)) := ⟨_, rfl⟩
  rw [← hX] at C ⊢
  obtain ⟨F, hF⟩ : ∃ F, F = bs (c :: r) := ⟨_, rfl⟩
  rw [← hF] at HR ⊢
  clear hX hF hc hf
  go_enter Try.func36, Try.ntmps36
  go_wp2_with (go_at_call 43; refine (C.out _).mono ?_; rintro e w' ⟨rfl, hb⟩)
  go_ret
  exact ⟨rfl, ((Below.refl _ _).alloc (Nat.le_refl _) _).trans (hb.mono (by simp))⟩
set_option maxRecDepth 100000 in
theorem yfield_119 (y m d t : Nat) (hf : Face y m d t) (c : UInt8) (hc : c.toNat = 119) (r : List UInt8) (w : World) : Calls Try.prog 36 #[.agg #[.int .i64 y, .int .i64 m, .int .i64 d, .int .i64 t], .string (bs (c :: r))] w fun e w' => e = .returned (.string (bs (Mo.nm Mo.dnm ((t / 86400 + 4) % 7)))) ∧ Below w.heap.size w w' := by
  have hy := hf.y; have hm1 := hf.m1; have hm2 := hf.m2; have hd := hf.d; have ht := hf.t
  have C := Lib.hid (show ∀ v : World, Calls Try.prog 44 #[.string (bs Mo.dnm), .int .i64 (((t : Int) / 86400 + 4) % 7)] v fun e w' => e = .returned (.string (bs (Mo.nm Mo.dnm ((t / 86400 + 4) % 7)))) ∧ Below v.heap.size v w' from fun v => by
    have h := yname_w ((t / 86400 + 4) % 7) (by omega) v
    rw [show (((t / 86400 + 4) % 7 : Nat) : Int) = ((t : Int) / 86400 + 4) % 7 by omega] at h
    exact h.mono fun _ _ ⟨he, hw⟩ => ⟨he, hw ▸ Below.refl _ _⟩)
  have q121 : ((c.toNat : Int) == 121) = false := u8_not (n := 121) (by omega)
  have q109 : ((c.toNat : Int) == 109) = false := u8_not (n := 109) (by omega)
  have q100 : ((c.toNat : Int) == 100) = false := u8_not (n := 100) (by omega)
  have q104 : ((c.toNat : Int) == 104) = false := u8_not (n := 104) (by omega)
  have q105 : ((c.toNat : Int) == 105) = false := u8_not (n := 105) (by omega)
  have q115 : ((c.toNat : Int) == 115) = false := u8_not (n := 115) (by omega)
  have q119 : ((c.toNat : Int) == 119) = true := u8_is (n := 119) hc
  have HR : ∀ v : World, (Instr.index 9 (.string (bs (c :: r))) (.int .i64 0)).run Try.prog v = .ok (.int .u8 (c.toNat : Int)) v := fun v => run_head v _ _ _ _ Try.underlying9
  obtain ⟨X, hX⟩ : ∃ X, X = bs (Mo.nm Mo.dnm ((t / 86400 + 4) % 7)) := ⟨_, rfl⟩
  rw [← hX] at C ⊢
  obtain ⟨F, hF⟩ : ∃ F, F = bs (c :: r) := ⟨_, rfl⟩
  rw [← hF] at HR ⊢
  clear hX hF hc hf
  go_enter Try.func36, Try.ntmps36
  go_wp2_with (go_at_call 44; refine (C.out _).mono ?_; rintro e w' ⟨rfl, hb⟩)
  go_ret
  exact ⟨rfl, ((Below.refl _ _).alloc (Nat.le_refl _) _).trans (hb.mono (by simp))⟩
set_option maxRecDepth 100000 in
theorem yfield_110 (y m d t : Nat) (hf : Face y m d t) (c : UInt8) (hc : c.toNat = 110) (r : List UInt8) (w : World) : Calls Try.prog 36 #[.agg #[.int .i64 y, .int .i64 m, .int .i64 d, .int .i64 t], .string (bs (c :: r))] w fun e w' => e = .returned (.string (bs (Mo.nm Mo.mnm (m - 1)))) ∧ Below w.heap.size w w' := by
  have hy := hf.y; have hm1 := hf.m1; have hm2 := hf.m2; have hd := hf.d; have ht := hf.t
  have C := Lib.hid (show ∀ v : World, Calls Try.prog 44 #[.string (bs Mo.mnm), .int .i64 ((m : Int) - 1)] v fun e w' => e = .returned (.string (bs (Mo.nm Mo.mnm (m - 1)))) ∧ Below v.heap.size v w' from fun v => by
    have h := yname_m (m - 1) (by omega) v
    rw [show ((m - 1 : Nat) : Int) = (m : Int) - 1 by omega] at h
    exact h.mono fun _ _ ⟨he, hw⟩ => ⟨he, hw ▸ Below.refl _ _⟩)
  have q121 : ((c.toNat : Int) == 121) = false := u8_not (n := 121) (by omega)
  have q109 : ((c.toNat : Int) == 109) = false := u8_not (n := 109) (by omega)
  have q100 : ((c.toNat : Int) == 100) = false := u8_not (n := 100) (by omega)
  have q104 : ((c.toNat : Int) == 104) = false := u8_not (n := 104) (by omega)
  have q105 : ((c.toNat : Int) == 105) = false := u8_not (n := 105) (by omega)
  have q115 : ((c.toNat : Int) == 115) = false := u8_not (n := 115) (by omega)
  have q119 : ((c.toNat : Int) == 119) = false := u8_not (n := 119) (by omega)
  have q110 : ((c.toNat : Int) == 110) = true := u8_is (n := 110) hc
  have HR : ∀ v : World, (Instr.index 9 (.string (bs (c :: r))) (.int .i64 0)).run Try.prog v = .ok (.int .u8 (c.toNat : Int)) v := fun v => run_head v _ _ _ _ Try.underlying9
  obtain ⟨X, hX⟩ : ∃ X, X = bs (Mo.nm Mo.mnm (m - 1)) := ⟨_, rfl⟩
  rw [← hX] at C ⊢
  obtain ⟨F, hF⟩ : ∃ F, F = bs (c :: r) := ⟨_, rfl⟩
  rw [← hF] at HR ⊢
  clear hX hF hc hf
  go_enter Try.func36, Try.ntmps36
  go_wp2_with (go_at_call 44; refine (C.out _).mono ?_; rintro e w' ⟨rfl, hb⟩)
  go_ret
  exact ⟨rfl, ((Below.refl _ _).alloc (Nat.le_refl _) _).trans (hb.mono (by simp))⟩
set_option maxRecDepth 100000 in
theorem yfield_no (y m d t : Nat) (c : UInt8) (hc : c.toNat ≠ 121 ∧ c.toNat ≠ 109 ∧ c.toNat ≠ 100 ∧ c.toNat ≠ 104 ∧ c.toNat ≠ 105 ∧ c.toNat ≠ 115 ∧ c.toNat ≠ 119 ∧ c.toNat ≠ 110) (r : List UInt8) (w : World) : Calls Try.prog 36 #[.agg #[.int .i64 y, .int .i64 m, .int .i64 d, .int .i64 t], .string (bs (c :: r))] w fun e w' => e = .returned (.string (bs [c])) ∧ Below w.heap.size w w' := by
  have q121 : ((c.toNat : Int) == 121) = false := u8_not (n := 121) (by omega)
  have q109 : ((c.toNat : Int) == 109) = false := u8_not (n := 109) (by omega)
  have q100 : ((c.toNat : Int) == 100) = false := u8_not (n := 100) (by omega)
  have q104 : ((c.toNat : Int) == 104) = false := u8_not (n := 104) (by omega)
  have q105 : ((c.toNat : Int) == 105) = false := u8_not (n := 105) (by omega)
  have q115 : ((c.toNat : Int) == 115) = false := u8_not (n := 115) (by omega)
  have q119 : ((c.toNat : Int) == 119) = false := u8_not (n := 119) (by omega)
  have q110 : ((c.toNat : Int) == 110) = false := u8_not (n := 110) (by omega)
  have HR : ∀ v : World, (Instr.index 9 (.string (bs (c :: r))) (.int .i64 0)).run Try.prog v = .ok (.int .u8 (c.toNat : Int)) v := fun v => run_head v _ _ _ _ Try.underlying9
  have HT : ∀ v : World, (Instr.slice 9 (.string (bs (c :: r))) none (some (.int .i64 1)) none).run Try.prog v = .ok (.string (bs [c])) v := fun v => by
    have := run_first_string (P := Try.prog) v 9 (bs (c :: r)) .i64 1 Try.underlying9 (by rw [bs_size]; simp)
    rw [show ((1 : Int)) = ((1 : Nat) : Int) by omega, this]
    congr 2
    exact bs_of (by rw [extract_to, bs_list]; rfl)
  obtain ⟨F, hF⟩ : ∃ F, F = bs (c :: r) := ⟨_, rfl⟩
  rw [← hF] at HR HT ⊢
  clear hF hc
  go_enter Try.func36, Try.ntmps36
  go_wp2_with fail
  go_ret
  exact ⟨rfl, (Below.refl _ _).alloc (Nat.le_refl _) _⟩
theorem yfield_any (y m d t : Nat) (hf : Face y m d t) (c : UInt8) (r : List UInt8) (w : World) : Calls Try.prog 36 #[.agg #[.int .i64 y, .int .i64 m, .int .i64 d, .int .i64 t], .string (bs (c :: r))] w fun e w' => e = .returned (.string (bs (Mo.fld y m d t c))) ∧ Below w.heap.size w w' := by
  have hn : ∀ k : UInt8, c ≠ k → c.toNat ≠ k.toNat := fun k h e => h (UInt8.toNat_inj.1 e)
  unfold Mo.fld
  by_cases h121 : c = 121
  · rw [if_pos h121]; exact yfield_121 y m d t hf c (by rw [h121]; rfl) r w
  rw [if_neg h121]
  by_cases h109 : c = 109
  · rw [if_pos h109]; exact yfield_109 y m d t hf c (by rw [h109]; rfl) r w
  rw [if_neg h109]
  by_cases h100 : c = 100
  · rw [if_pos h100]; exact yfield_100 y m d t hf c (by rw [h100]; rfl) r w
  rw [if_neg h100]
  by_cases h104 : c = 104
  · rw [if_pos h104]; exact yfield_104 y m d t hf c (by rw [h104]; rfl) r w
  rw [if_neg h104]
  by_cases h105 : c = 105
  · rw [if_pos h105]; exact yfield_105 y m d t hf c (by rw [h105]; rfl) r w
  rw [if_neg h105]
  by_cases h115 : c = 115
  · rw [if_pos h115]; exact yfield_115 y m d t hf c (by rw [h115]; rfl) r w
  rw [if_neg h115]
  by_cases h119 : c = 119
  · rw [if_pos h119]; exact yfield_119 y m d t hf c (by rw [h119]; rfl) r w
  rw [if_neg h119]
  by_cases h110 : c = 110
  · rw [if_pos h110]; exact yfield_110 y m d t hf c (by rw [h110]; rfl) r w
  rw [if_neg h110]
  exact yfield_no y m d t c ⟨hn 121 h121, hn 109 h109, hn 100 h100, hn 104 h104, hn 105 h105, hn 115 h115, hn 119 h119, hn 110 h110⟩ r w
end Go.Proofs.Ytllboegemooeoaa
