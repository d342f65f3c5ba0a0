/- The walks of a row's start, of the errors that are wrapped, of lay and blank. -/
import Derived.Test.YtmobjpandmdmdaaGreatDoorJPen2
import Derived.Test.YtmobjpandmdmdaaGreatDoorJRead
import Derived.Test.YtmobjpandmdmdaaGreatDoorJWrap
import Derived.BigQuiet
import Derived.Deep.QuietTactic
namespace Go.Proofs.YtmobjpandmdmdaaGreatDoor
open Go.RowKit

/-- A journal's row of sectors. -/
def rowV (d from_ m : Nat) : Value := .agg #[.pointer (some ⟨d, 0, none⟩), .int .i64 from_, .int .i64 m]
theorem rowV_eq (d from_ m : Nat) : rowV d from_ m = .agg #[.pointer (some ⟨d, 0, none⟩), .int .i64 from_, .int .i64 m] := rfl
set_option maxHeartbeats 1000000 in
theorem start_0 (d from_ m : Nat) (h : from_ + m ≤ 8192) (w : World) : Calls Tryz.prog 53 #[rowV d from_ m, .int .i64 0] w fun e w' => e = .returned (.int .i64 from_) ∧ Below w.heap.size w w' := by
  unfold rowV
  go_enter Tryz.func53, Tryz.ntmps53
  go_wp2
  go_ret
  exact ⟨rfl, (Below.refl _ _).alloc (Nat.le_refl _) _⟩
set_option maxHeartbeats 1000000 in
theorem start_1 (d from_ m : Nat) (h : from_ + m ≤ 8192) (w : World) : Calls Tryz.prog 53 #[rowV d from_ m, .int .i64 1] w fun e w' => e = .returned (.int .i64 (from_ + m : Nat)) ∧ Below w.heap.size w w' := by
  unfold rowV
  go_enter Tryz.func53, Tryz.ntmps53
  go_wp2
  go_ret
  exact ⟨rfl, (Below.refl _ _).alloc (Nat.le_refl _) _⟩
theorem start_any (d from_ m half b : Nat) (hh : half ≤ 1) (hb : b = from_ + half * m) (h : from_ + m ≤ 8192) (w : World) : Calls Tryz.prog 53 #[rowV d from_ m, .int .i64 half] w fun e w' => e = .returned (.int .i64 b) ∧ Below w.heap.size w w' := by
  have : half = 0 ∨ half = 1 := by omega
  subst hb
  rcases this with rfl | rfl
  · rw [Nat.zero_mul, Nat.add_zero]; exact start_0 d from_ m h w
  · rw [Nat.one_mul]; exact start_1 d from_ m h w
theorem As_nil (v : Value) (w : World) : Calls Tryz.prog 40 #[.nilIface, v] w fun e w' => e = .returned (.bool false) ∧ w = w' := by
  go_enter Tryz.func40, Tryz.ntmps40
  go_wp2
  go_ret
  exact ⟨rfl, rfl⟩
theorem wrapped_nil (w : World) : Calls Tryz.prog 54 #[.nilIface] w fun e w' => e = .returned .nilIface ∧ Below w.heap.size w w' := by
  go_enter Tryz.func54, Tryz.ntmps54
  go_wp2_with (go_at_call 40; refine (As_nil _ _).mono ?_; rintro e w' ⟨rfl, rfl⟩)
  go_ret
  exact ⟨rfl, (Below.refl _ _).alloc (Nat.le_refl _) _⟩
theorem Mv.of_kept {X Y F : List Nat} {w w' : World} (h : Kept w.heap.size X w w') (hs : ∀ x ∈ X, x ∈ Y) : Mv Y F F w w' := ⟨h.mono (Nat.le_refl _) (fun x _ hm => List.mem_append.2 (Or.inl (hs x hm))), fun _ hx => Or.inl hx⟩
theorem read_one (d p q n : Nat) (F : List Nat) (st : St) (a : Nat) (ha : a < n) (hn : n ≤ 8192) (w : World) (h : Pen d p q n F st true w) :
    Calls Tryz.prog 52 #[.pointer (some ⟨q, 0, none⟩), .int .i64 a, .int .i64 1] w fun e w' => e = .returned (.string (bs (Dk.readAt st.S st.ps a))) ∧ Pen d p q n F st true w' ∧ Kept w.heap.size [q] w w' := by
  have := read_any d p q n F st a 1 (by omega) hn w h
  rw [rd_one] at this
  exact this
/-- What lay does. -/
def layActs (a : Nat) (mk : Bool) (first : List UInt8) (rest : List (List UInt8)) : List Do :=
  puts a [0 :: first.drop 1] ++ ((if mk then [.flush] else []) ++ (puts (a + 1) rest ++ [.flush, .put a first, .flush]))
/-- What a text's first sector and the others are. -/
theorem flat_cons (x : List UInt8) (ss : List (List UInt8)) : (x :: ss).flatten = x ++ ss.flatten := rfl
theorem wide_one {x : List UInt8} (h : x.length = 64) : Wide [x] := fun s hs => by simp at hs; rw [hs]; exact h
theorem unmarked_64 {x : List UInt8} (h : x.length = 64) : (0 :: x.drop 1).length = 64 := by rw [List.length_cons, List.length_drop, h]
theorem run_rest1 {s q : ByteArray} (h : 1 ≤ s.size) (hq : s.extract 1 s.size = q) (w : World) : (Instr.slice 9 (.string s) (some (.int .i64 1)) none none).run Tryz.prog w = .ok (.string q) w := by
  rw [run_slice_string_from_if w 9 s .i64 1 Tryz.underlying9, if_pos (by omega), ← hq]; rfl
/-- What errors.As reads is laid, and lies beside the disk. -/
def WrapC (p : Nat) (F : List Nat) (w : World) : Prop := ErrCell w ∧ 0 ≠ p ∧ 0 ∉ F
theorem WrapC.mv {p : Nat} {F F' : List Nat} {w w' : World} (h : WrapC p F w) (hm : Mv [p] F F' w w') : WrapC p F' w' := by
  refine ⟨h.1.keep (hm.block h.1.lt (by simp; exact h.2.1) h.2.2), h.2.1, fun h0 => ?_⟩
  have hl := h.1.lt
  rcases hm.foot 0 h0 with h1 | h1
  · exact h.2.2 h1
  · omega
theorem does_free {st : St} (h : st.fuse = -1) (o : Do) : does (st, true) o = (st.did o, true) ∧ (st.did o).fuse = -1 := by
  refine ⟨does_on (by omega) o, ?_⟩
  cases o <;> (show less st.fuse = -1; rw [h]; rfl)
theorem doAll_free {st : St} (os : List Do) (h : st.fuse = -1) : (doAll (st, true) os).2 = true ∧ (doAll (st, true) os).1.fuse = -1 := by
  induction os generalizing st with
  | nil => exact ⟨rfl, h⟩
  | cons o os ih =>
    obtain ⟨h1, h2⟩ := does_free h o
    rw [doAll_cons, h1]
    exact ih h2
theorem allocPen (w : World) : (Instr.alloc 108 true (.tuple #[])).run Tryz.prog w = .ok (.pointer (some ⟨w.heap.size, 0, none⟩)) (w.alloc (.cells [Value.pointer none, .nilIface].toArray 108)) := by kernel_rfl
set_option maxRecDepth 100000 in
set_option maxHeartbeats 2000000 in
theorem lay_any (d p n : Nat) (F : List Nat) (st : St) (from_ m half at_ : Nat) (first : List UInt8) (rest : List (List UInt8)) (hfirst : first.length = 64) (hrest : Wide rest) (hm : from_ + 2 * m ≤ n) (hn : n ≤ 8192) (hh : half ≤ 1) (hat : at_ + 1 + rest.length ≤ m)
    (more : List (List UInt8)) (hmore : more = if at_ + 1 + rest.length < m then [z64] else []) (a : Nat) (hae : a = from_ + half * m + at_) (w : World) (h : Dsk d p n F st true w) (hf : st.Fit (rest.length + 6)) (mk : Bool) (hmk : mk = Lib.hasPrefix (Dk.readAt st.S st.ps a) [1]) (X : St × Bool) (hX : X = doAll (st, true) (layActs a mk first (rest ++ more))) (hW : X.2 = true ∨ WrapC p F w) :
    Calls Tryz.prog 72 #[rowV d from_ m, .int .i64 half, .int .i64 at_, .string (bs (first ++ rest.flatten))] w fun e w' => ∃ F', Dsk d p n F' X.1 X.2 w' ∧ Mv [p] F F' w w' ∧
      ((X.2 = true ∧ e = .returned .nilIface) ∨ (X.2 = false ∧ ∃ g g' : Nat, w.heap.size ≤ g' ∧ e = .returned (faultV g') ∧ w'.heap[g']? = some (.cells [Value.int .i64 10, .int .i64 0, faultV g].toArray 85 (0, 0)) ∧ FaultAt g 10 0 w')) := by
  obtain ⟨b, hb⟩ : ∃ b, b = from_ + half * m := ⟨_, rfl⟩
  have hbm : half * m ≤ m := by have : half = 0 ∨ half = 1 := by omega
                                rcases this with rfl | rfl <;> omega
  rw [← hb] at hae
  obtain ⟨t, ht⟩ : ∃ t, t = bs (first ++ rest.flatten) := ⟨_, rfl⟩
  have hts : t.size = 64 * (1 + rest.length) := by rw [ht, bs_size, List.length_append, hrest.flat, hfirst]; omega
  obtain ⟨t0, ht0⟩ : ∃ t, t = bs first := ⟨_, rfl⟩
  obtain ⟨t1, ht1⟩ : ∃ t, t = bs rest.flatten := ⟨_, rfl⟩
  have hcut : ∀ v : World, (Instr.slice 9 (.string t) none (some (.int .i64 64)) none).run Tryz.prog v = .ok (.string t0) v := run_cut64 (by omega) (by rw [ht, bs_cut hfirst, ht0])
  have hrst : ∀ v : World, (Instr.slice 9 (.string t) (some (.int .i64 64)) none none).run Tryz.prog v = .ok (.string t1) v := run_rest64 (by omega) (by rw [ht, bs_rest hfirst, ht1])
  obtain ⟨t2, ht2⟩ : ∃ t, t = bs (first.drop 1) := ⟨_, rfl⟩
  have hr1 : ∀ v : World, (Instr.slice 9 (.string t0) (some (.int .i64 1)) none none).run Tryz.prog v = .ok (.string t2) v := run_rest1 (by rw [ht0, bs_size]; omega) (by rw [ht2]; apply bs_of; rw [extract_from, ht0, bs_list])
  have ht0s : t0.size = 64 := by rw [ht0, bs_size, hfirst]
  have ht1s : t1.size = 64 * rest.length := by rw [ht1, bs_size, hrest.flat]; omega
  have ht2s : t2.size = 63 := by rw [ht2, bs_size, List.length_drop, hfirst]
  rw [← ht]
  have H := Lib.hid h
  have HX := Lib.hid hX
  have HMK := Lib.hid hmk
  have HW := Lib.hid hW
  have HF := Lib.hid hf
  have HB := Lib.hid hb
  have HA := Lib.hid hae
  have HMO := Lib.hid hmore
  have HT0 := Lib.hid ht0
  have HT1 := Lib.hid ht1
  have HT2 := Lib.hid ht2
  have HTS := Lib.hid hts
  clear h hX hmk hW hf hb hae hmore ht ht0 ht1 ht2
  unfold rowV
  go_enter Tryz.func72, Tryz.ntmps72
  go_wp2_with (first | (refine wpList_alloc rfl 108 rfl _ allocPen ?_; go_frame) | fail)
  obtain ⟨r, hr⟩ : ∃ r, r = w.heap.size := ⟨_, rfl⟩
  obtain ⟨q, hq⟩ : ∃ q, q = (w.alloc (.cells #[Value.pointer (some ⟨d, 0, none⟩), .int .i64 from_, .int .i64 m] 72)).heap.size := ⟨_, rfl⟩
  obtain ⟨w2, hw2⟩ : ∃ x, x = (w.alloc (.cells #[Value.pointer (some ⟨d, 0, none⟩), .int .i64 from_, .int .i64 m] 72)).alloc (.cells #[Value.pointer (some ⟨d, 0, none⟩), .nilIface] 108) := ⟨_, rfl⟩
  rw [← hq, ← hw2, ← hr]
  have hqr : q = r + 1 := by rw [hq, hr]; simp
  have hb2 : Below w.heap.size w w2 := by rw [hw2]; exact ((Below.refl _ _).alloc (Nat.le_refl _) _).alloc (by simp) _
  have hg2 : w2.heap[r]? = some (.cells [Value.pointer (some ⟨d, 0, none⟩), .int .i64 from_, .int .i64 m].toArray 72 (0, 0)) := by rw [hw2, hr]; exact heap_alloc2_old _ _ _
  have hp2 : w2.heap[q]? = some (.cells [Value.pointer (some ⟨d, 0, none⟩), .nilIface].toArray 108 (0, 0)) := by rw [hw2, hqr, hr]; exact heap_alloc2_new _ _ _
  have hD2 := H.out.below hb2
  have hFl := H.out.Flt
  have hpl := H.out.pow.lt
  have hP2 : Pen d p q n F st true w2 := Pen.new hD2 hp2 (fun hm => by have := hFl q hm; omega) (by omega)
  have hM2 : Mv [q, p] F F w w2 := Mv.below _ _ hb2
  have e0 : w2.drew.cell? ⟨r, 0, none⟩ = some (.pointer (some ⟨d, 0, none⟩)) := by show w2.cell? _ = _; rw [cell_of_list hg2]; rfl
  have e1 : w2.drew.cell? ⟨r, 1, none⟩ = some (.int .i64 from_) := by show w2.cell? _ = _; rw [cell_of_list hg2]; rfl
  have e2 : w2.drew.cell? ⟨r, 2, none⟩ = some (.int .i64 m) := by show w2.cell? _ = _; rw [cell_of_list hg2]; rfl
  have hr2 : r < w2.heap.size := lt_of_heap hg2
  have q64 : (t.size : Int) / 64 = 1 + (rest.length : Int) := by omega
  have HP := Lib.hid hP2
  have HM := Lib.hid hM2
  have HG2 := Lib.hid hg2
  have HRW := Lib.hid (And.intro hr hqr)
  clear hw2 hb2 hg2 hp2 hD2 hP2 hM2 hq hFl hpl hr hqr
  go_quiet (fail)
  obtain ⟨w3, hw3⟩ : ∃ x, x = w2.drewN nq := ⟨_, rfl⟩
  have HP3 : Hid (Pen d p q n F st true w3) := Lib.hid (by rw [hw3]; exact HP.out.below (below_drewN (Below.refl _ _) nq))
  have HM3 : Hid (Mv [q, p] F F w w3) := Lib.hid (by rw [hw3]; exact HM.out.trans (Mv.below _ _ (below_drewN (Below.refl _ _) nq)))
  have e0 : w3.cell? ⟨r, 0, none⟩ = some (.pointer (some ⟨d, 0, none⟩)) := by rw [hw3]; exact e0
  have e1 : w3.cell? ⟨r, 1, none⟩ = some (.int .i64 from_) := by rw [hw3]; exact e1
  have e2 : w3.cell? ⟨r, 2, none⟩ = some (.int .i64 m) := by rw [hw3]; exact e2
  have hr3 : r < w3.heap.size := by rw [hw3, World.heap_drewN]; exact hr2
  rw [← hw3]
  clear hw3 HP HM hr2
  have EA := Lib.hid (show (at_ : Int) + (b : Int) = (a : Int) by have := HA.out; omega)
  have ET0 := Lib.hid (show ((⟨#[0]⟩ : ByteArray) ++ t2) = bs ([0 :: first.drop 1] : List (List UInt8)).flatten by
    rw [HT2.out, show (⟨#[0]⟩ : ByteArray) = bs [0] from bs_of rfl, bs_append]; simp)
  have han : a < n := by have := HA.out; have := HB.out; omega
  have hbb : b ≤ 8192 := by have := HB.out; omega
  by_cases hroom : at_ + 1 + rest.length < m
  · as_aux_lemma =>
    have hmo : more = [z64] := by rw [HMO.out, if_pos hroom]
    have HML := Lib.hid (show more.length ≤ 1 ∧ Wide more ∧ at_ + 1 + (rest ++ more).length ≤ m by
      rw [hmo]; exact ⟨by simp, wide_one length_z64, by simp; omega⟩)
    obtain ⟨t3, ht3⟩ : ∃ t, t = t1 ++ bs z64 := ⟨_, rfl⟩
    have ET1 := Lib.hid (show t3 = bs (rest ++ more).flatten by rw [ht3, HT1.out, bs_append, hmo]; simp)
    have ht3' : t1 ++ bs z64 = t3 := ht3.symm
    have hcond : (at_ : Int) + (1 + (rest.length : Int)) < (m : Int) := by omega
    have hz64 : (bs z64).size = 64 := by rw [bs_size, length_z64]
    clear ht3 hmo
    go_wp2_with (first | (go_at_call 60; refine (empty_any _).mono ?_; rintro e w4 ⟨rfl, hb4⟩; have e0 := (hb4.cell (p := ⟨r, 0, none⟩) hr3).trans e0; have e1 := (hb4.cell (p := ⟨r, 1, none⟩) hr3).trans e1; have e2 := (hb4.cell (p := ⟨r, 2, none⟩) hr3).trans e2; have HP4 := Lib.hid (HP3.out.below hb4); have HM4 := Lib.hid (HM3.out.trans (Mv.below _ _ hb4)); clear hb4) | (go_at_call 53; refine (start_any d from_ m half b hh HB.out (by omega) _).mono ?_; rintro e w5 ⟨rfl, hb5⟩; replace HP4 := Lib.hid (HP4.out.below hb5); replace HM4 := Lib.hid (HM4.out.trans (Mv.below _ _ hb5)); clear hb5) | (go_at_call 52; rw [EA.out]; refine (read_one d p q n F st a han hn _ HP4.out).mono ?_; rintro e w5 ⟨rfl, h5, m5⟩; have HP5 := Lib.hid h5; have HM5 := Lib.hid (HM4.out.trans (Mv.of_kept m5 (fun x hx => by simp at hx; simp [hx]))); clear h5 m5) | fail)
    clear ht3' hz64 hcond
    rw [ET0.out]

    have hfit1 := HF.out
    have hrw := HRW.out
    -- the read, and the first sector without its mark
    have hD := HP4.out.dsk
    refine (write_any d p q n F st true a [0 :: first.drop 1] (wide_one (unmarked_64 hfirst)) (by rw [List.length_singleton]; omega) hn _ HP5.out (hfit1.less (by simp))).mono ?_
    rintro e w6 ⟨rfl, F6, h6, m6⟩
    obtain ⟨s6, o6, he6⟩ : ∃ s o, doAll (st, true) (puts a [0 :: first.drop 1]) = (s, o) := ⟨_, _, rfl⟩
    rw [he6] at h6
    have hf6 : s6.Fit (rest.length + 5) := by
      have := St.Fit.doAll (m := rest.length + 5) (puts a [0 :: first.drop 1]) (st := st) (hfit1.less (by simp [puts])) true
      rw [he6] at this; exact this
    have HP6 := Lib.hid h6
    have HM6 := Lib.hid (HM5.out.trans m6)
    have HE6 := Lib.hid he6
    have HF6 := Lib.hid hf6
    clear h6 m6 he6 hf6 hfit1 hrw hD
    have HPR := Lib.hid (fun v : World => (show Calls Tryz.prog 84 #[.string (bs (Dk.readAt st.S st.ps a)), .string ⟨#[1]⟩] v (fun e w' => e = .returned (.bool mk) ∧ v = w') by
      refine (j_strings_HasPrefix (bs (Dk.readAt st.S st.ps a)) ⟨#[1]⟩ v).mono ?_
      rintro e w' ⟨rfl, rfl⟩
      rw [bs_list, show (ByteArray.mk #[1]).data.toList = [1] from rfl, ← HMK.out]
      exact ⟨rfl, rfl⟩))
    have hml : more.length ≤ 1 := HML.out.1
    have hwide : Wide (rest ++ more) := fun s hs => by
      rcases List.mem_append.1 hs with h1 | h1
      · exact hrest s h1
      · exact HML.out.2.1 s h1
    have hlen1 : (rest ++ more).length ≤ rest.length + 1 := by rw [List.length_append]; omega
    have hroom1 : a + 1 + (rest ++ more).length ≤ n := by have := HML.out.2.2; have := HA.out; have := HB.out; omega
    have EA1 := Lib.hid (show (a : Int) + 1 = ((a + 1 : Nat) : Int) by omega)
    have HX7 : ∃ s7 o7, (s7, o7) = (if mk then does (s6, o6) .flush else (s6, o6)) := ⟨_, _, rfl⟩
    obtain ⟨s7, o7, hX7⟩ := HX7
    have hf7 : s7.Fit (rest.length + 4) := by
      cases mk with
      | false => rw [if_neg (by simp)] at hX7; injection hX7 with e1 e2; rw [e1]; exact HF6.out.less (by omega)
      | true => rw [if_pos rfl] at hX7; have := HF6.out.does (m := rest.length + 4) o6 .flush; rw [← hX7] at this; exact this
    have HX7 := Lib.hid hX7
    have HF7 := Lib.hid hf7
    obtain ⟨s8, o8, he8⟩ : ∃ s o, doAll (s7, o7) (puts (a + 1) (rest ++ more)) = (s, o) := ⟨_, _, rfl⟩
    have hf8 : s8.Fit 3 := by
      have := St.Fit.doAll (m := 3) (puts (a + 1) (rest ++ more)) (st := s7) (hf7.less (by rw [length_puts]; omega)) o7
      rw [he8] at this; exact this
    obtain ⟨s9, o9, he9⟩ : ∃ s o, does (s8, o8) .flush = (s, o) := ⟨_, _, rfl⟩
    have hf9 : s9.Fit 2 := by have := hf8.does o8 .flush; rw [he9] at this; exact this
    obtain ⟨s10, o10, he10⟩ : ∃ s o, does (s9, o9) (.put a first) = (s, o) := ⟨_, _, rfl⟩
    have hf10 : s10.Fit 1 := by have := hf9.does o9 (.put a first); rw [he10] at this; exact this
    obtain ⟨s11, o11, he11⟩ : ∃ s o, does (s10, o10) .flush = (s, o) := ⟨_, _, rfl⟩
    have HFIN := Lib.hid (show X = (s11, o11) by
      rw [HX.out, layActs, doAll_append, HE6.out, doAll_append, show doAll (s6, o6) (if mk then [.flush] else []) = (s7, o7) by rw [hX7]; cases mk <;> rfl, doAll_append, he8, doAll_cons, he9, doAll_cons, he10, doAll_cons, he11]; rfl)
    have HE8 := Lib.hid he8
    have HE9 := Lib.hid he9
    have HE10 := Lib.hid he10
    have HE11 := Lib.hid he11
    have HF8 := Lib.hid hf8
    have HF9 := Lib.hid hf9
    have HF10 := Lib.hid hf10
    have CW8 := Lib.hid (fun (F : List Nat) (v : World) (h : Pen d p q n F s7 o7 v) => write_any d p q n F s7 o7 (a + 1) (rest ++ more) hwide hroom1 hn v h (hf7.less (by omega)))
    have CW10 := Lib.hid (fun (F : List Nat) (v : World) (h : Pen d p q n F s9 o9 v) => write_any d p q n F s9 o9 a [first] (wide_one hfirst) (by rw [List.length_singleton]; omega) hn v h (hf9.less (by simp)))
    rw [he8, ← ET1.out] at CW8
    rw [show ([first] : List (List UInt8)).flatten = first from by simp, ← HT0.out, show doAll (s9, o9) (puts a [first]) = (s10, o10) from he10] at CW10
    clear hX7 hf7 he8 hf8 he9 hf9 he10 hf10 he11 hlen1 hml hroom1 hwide hrst hcut hr1
    cases mk
    case' true =>
      go_wp2_with (first | (go_at_call 84; refine (HPR.out _).mono ?_; rintro e w' ⟨rfl, rfl⟩) | fail)
      refine (flush_any d p q n F6 s6 o6 _ HP6.out (HF6.out.less (by omega))).mono ?_
      rintro e w7 ⟨rfl, h7, m7⟩
      rw [← show (s7, o7) = does (s6, o6) .flush from HX7.out] at h7
      have HP7 := Lib.hid h7
      have HM7 := Lib.hid (HM6.out.trans m7)
      clear h7 m7
    case' false =>
      obtain ⟨w7, rfl⟩ : ∃ x, x = w6 := ⟨_, rfl⟩
      have e67 : (s7, o7) = (s6, o6) := HX7.out
      injection e67 with ea eb
      have HP7 : Hid (Pen d p q n F6 s7 o7 w7) := Lib.hid (by rw [ea, eb]; exact HP6.out)
      have HM7 := HM6
      clear ea eb
    all_goals
      go_wp2_with (first | (go_at_call 84; refine (HPR.out _).mono ?_; rintro e w' ⟨rfl, rfl⟩) | (go_at_call 59; rw [EA1.out]; refine (CW8.out F6 _ HP7.out).mono ?_; rintro e w8 ⟨rfl, F8, h8, m8⟩; have HP8 := Lib.hid h8; have HM8 := Lib.hid (HM7.out.trans m8); clear h8 m8) | fail)
      have HC9 := Lib.hid (fun (F : List Nat) (v : World) (h : Pen d p q n F s8 o8 v) => flush_any d p q n F s8 o8 v h (HF8.out.less (by omega)))
      have HC11 := Lib.hid (fun (F : List Nat) (v : World) (h : Pen d p q n F s10 o10 v) => flush_any d p q n F s10 o10 v h HF10.out)
      rw [HE9.out] at HC9
      rw [HE11.out] at HC11
      refine (HC9.out F8 _ HP8.out).mono ?_
      rintro e w9 ⟨rfl, h9, m9⟩
      have HP9 := Lib.hid h9
      have HM9 := Lib.hid (HM8.out.trans m9)
      clear h9 m9
      go_wp2_with (first | (go_at_call 59; refine (CW10.out F8 _ HP9.out).mono ?_; rintro e w10 ⟨rfl, F10, h10, m10⟩; have HP10 := Lib.hid h10; have HM10 := Lib.hid (HM9.out.trans m10); clear h10 m10) | fail)
      refine (HC11.out F10 _ HP10.out).mono ?_
      rintro e w11 ⟨rfl, h11, m11⟩
      have HM11 := Lib.hid ((HM10.out.trans m11).more (Y := [p]) (fun x hx => by
        have := HRW.out
        simp only [List.mem_cons, List.not_mem_nil, or_false] at hx
        rcases hx with rfl | rfl
        · exact Or.inr (by omega)
        · exact Or.inl (by simp)))
      have HP11 := Lib.hid h11
      clear h11 m11
      cases o11 with
      | true =>
        have c1 : w11.cell? ⟨q, 1, none⟩ = some .nilIface := by rw [cell_of_list HP11.out.fine]; rfl
        go_wp2_with (first | (go_at_call 54; refine (wrapped_nil _).mono ?_; rintro e w12 ⟨rfl, hb12⟩) | fail)
        go_ret
        rw [HFIN.out]
        exact ⟨F10, HP11.out.dsk.below hb12, HM11.out.trans (Mv.below _ _ hb12), Or.inl ⟨rfl, rfl⟩⟩
      | false =>
        obtain ⟨g, hq, hf⟩ := HP11.out.stuck
        have c1 : w11.cell? ⟨q, 1, none⟩ = some (faultV g) := by rw [cell_of_list hq]; rfl
        have hWC : ErrCell w11 := by
          rcases HW.out with h1 | h1
          · exfalso
            have e2 := congrArg Prod.snd HFIN.out
            rw [h1] at e2
            cases e2
          · exact (h1.mv HM11.out).1
        have HWC := Lib.hid (wrapped_fault g w11 hWC hf)
        unfold faultV at c1 HWC
        have HFA := Lib.hid hf
        clear hq hf hWC
        go_wp2_with fail
        refine HWC.out.mono ?_
        rintro e w12 ⟨g', hg', rfl, hgf, hb12⟩
        have HGF := Lib.hid hgf
        have HB12 := Lib.hid hb12
        clear hgf hb12
        go_wp2_with fail
        go_ret
        rw [HFIN.out]
        exact ⟨F10, HP11.out.dsk.below HB12.out, HM11.out.trans (Mv.below _ _ HB12.out), Or.inr ⟨rfl, g, g', Nat.le_trans HM11.out.size hg', rfl, HGF.out, HFA.out.keep (HB12.out.block g HFA.out.lt)⟩⟩
  · as_aux_lemma =>
    have hmo : more = [] := by rw [HMO.out, if_neg hroom]
    have HML := Lib.hid (show more.length ≤ 1 ∧ Wide more ∧ at_ + 1 + (rest ++ more).length ≤ m by
      rw [hmo]; exact ⟨by simp, by intro s hs; simp at hs, by simp; omega⟩)
    obtain ⟨t3, rfl⟩ : ∃ t, t = t1 := ⟨_, rfl⟩
    have ET1 := Lib.hid (show t3 = bs (rest ++ more).flatten by rw [HT1.out, hmo]; simp)
    have hcond : ¬ (at_ : Int) + (1 + (rest.length : Int)) < (m : Int) := by omega
    obtain ⟨w4, rfl⟩ : ∃ x, x = w3 := ⟨_, rfl⟩
    have HP4 := HP3
    have HM4 := HM3
    clear hmo
    go_wp2_with (first | (go_at_call 53; refine (start_any d from_ m half b hh HB.out (by omega) _).mono ?_; rintro e w5 ⟨rfl, hb5⟩; replace HP4 := Lib.hid (HP4.out.below hb5); replace HM4 := Lib.hid (HM4.out.trans (Mv.below _ _ hb5)); clear hb5) | (go_at_call 52; rw [EA.out]; refine (read_one d p q n F st a han hn _ HP4.out).mono ?_; rintro e w5 ⟨rfl, h5, m5⟩; have HP5 := Lib.hid h5; have HM5 := Lib.hid (HM4.out.trans (Mv.of_kept m5 (fun x hx => by simp at hx; simp [hx]))); clear h5 m5) | fail)
    rw [ET0.out]
    clear hcond hr3

    have hfit1 := HF.out
    have hrw := HRW.out
    -- the read, and the first sector without its mark
    have hD := HP4.out.dsk
    refine (write_any d p q n F st true a [0 :: first.drop 1] (wide_one (unmarked_64 hfirst)) (by rw [List.length_singleton]; omega) hn _ HP5.out (hfit1.less (by simp))).mono ?_
    rintro e w6 ⟨rfl, F6, h6, m6⟩
    obtain ⟨s6, o6, he6⟩ : ∃ s o, doAll (st, true) (puts a [0 :: first.drop 1]) = (s, o) := ⟨_, _, rfl⟩
    rw [he6] at h6
    have hf6 : s6.Fit (rest.length + 5) := by
      have := St.Fit.doAll (m := rest.length + 5) (puts a [0 :: first.drop 1]) (st := st) (hfit1.less (by simp [puts])) true
      rw [he6] at this; exact this
    have HP6 := Lib.hid h6
    have HM6 := Lib.hid (HM5.out.trans m6)
    have HE6 := Lib.hid he6
    have HF6 := Lib.hid hf6
    clear h6 m6 he6 hf6 hfit1 hrw hD
    have HPR := Lib.hid (fun v : World => (show Calls Tryz.prog 84 #[.string (bs (Dk.readAt st.S st.ps a)), .string ⟨#[1]⟩] v (fun e w' => e = .returned (.bool mk) ∧ v = w') by
      refine (j_strings_HasPrefix (bs (Dk.readAt st.S st.ps a)) ⟨#[1]⟩ v).mono ?_
      rintro e w' ⟨rfl, rfl⟩
      rw [bs_list, show (ByteArray.mk #[1]).data.toList = [1] from rfl, ← HMK.out]
      exact ⟨rfl, rfl⟩))
    have hml : more.length ≤ 1 := HML.out.1
    have hwide : Wide (rest ++ more) := fun s hs => by
      rcases List.mem_append.1 hs with h1 | h1
      · exact hrest s h1
      · exact HML.out.2.1 s h1
    have hlen1 : (rest ++ more).length ≤ rest.length + 1 := by rw [List.length_append]; omega
    have hroom1 : a + 1 + (rest ++ more).length ≤ n := by have := HML.out.2.2; have := HA.out; have := HB.out; omega
    have EA1 := Lib.hid (show (a : Int) + 1 = ((a + 1 : Nat) : Int) by omega)
    have HX7 : ∃ s7 o7, (s7, o7) = (if mk then does (s6, o6) .flush else (s6, o6)) := ⟨_, _, rfl⟩
    obtain ⟨s7, o7, hX7⟩ := HX7
    have hf7 : s7.Fit (rest.length + 4) := by
      cases mk with
      | false => rw [if_neg (by simp)] at hX7; injection hX7 with e1 e2; rw [e1]; exact HF6.out.less (by omega)
      | true => rw [if_pos rfl] at hX7; have := HF6.out.does (m := rest.length + 4) o6 .flush; rw [← hX7] at this; exact this
    have HX7 := Lib.hid hX7
    have HF7 := Lib.hid hf7
    obtain ⟨s8, o8, he8⟩ : ∃ s o, doAll (s7, o7) (puts (a + 1) (rest ++ more)) = (s, o) := ⟨_, _, rfl⟩
    have hf8 : s8.Fit 3 := by
      have := St.Fit.doAll (m := 3) (puts (a + 1) (rest ++ more)) (st := s7) (hf7.less (by rw [length_puts]; omega)) o7
      rw [he8] at this; exact this
    obtain ⟨s9, o9, he9⟩ : ∃ s o, does (s8, o8) .flush = (s, o) := ⟨_, _, rfl⟩
    have hf9 : s9.Fit 2 := by have := hf8.does o8 .flush; rw [he9] at this; exact this
    obtain ⟨s10, o10, he10⟩ : ∃ s o, does (s9, o9) (.put a first) = (s, o) := ⟨_, _, rfl⟩
    have hf10 : s10.Fit 1 := by have := hf9.does o9 (.put a first); rw [he10] at this; exact this
    obtain ⟨s11, o11, he11⟩ : ∃ s o, does (s10, o10) .flush = (s, o) := ⟨_, _, rfl⟩
    have HFIN := Lib.hid (show X = (s11, o11) by
      rw [HX.out, layActs, doAll_append, HE6.out, doAll_append, show doAll (s6, o6) (if mk then [.flush] else []) = (s7, o7) by rw [hX7]; cases mk <;> rfl, doAll_append, he8, doAll_cons, he9, doAll_cons, he10, doAll_cons, he11]; rfl)
    have HE8 := Lib.hid he8
    have HE9 := Lib.hid he9
    have HE10 := Lib.hid he10
    have HE11 := Lib.hid he11
    have HF8 := Lib.hid hf8
    have HF9 := Lib.hid hf9
    have HF10 := Lib.hid hf10
    have CW8 := Lib.hid (fun (F : List Nat) (v : World) (h : Pen d p q n F s7 o7 v) => write_any d p q n F s7 o7 (a + 1) (rest ++ more) hwide hroom1 hn v h (hf7.less (by omega)))
    have CW10 := Lib.hid (fun (F : List Nat) (v : World) (h : Pen d p q n F s9 o9 v) => write_any d p q n F s9 o9 a [first] (wide_one hfirst) (by rw [List.length_singleton]; omega) hn v h (hf9.less (by simp)))
    rw [he8, ← ET1.out] at CW8
    rw [show ([first] : List (List UInt8)).flatten = first from by simp, ← HT0.out, show doAll (s9, o9) (puts a [first]) = (s10, o10) from he10] at CW10
    clear hX7 hf7 he8 hf8 he9 hf9 he10 hf10 he11 hlen1 hml hroom1 hwide hrst hcut hr1
    cases mk
    case' true =>
      go_wp2_with (first | (go_at_call 84; refine (HPR.out _).mono ?_; rintro e w' ⟨rfl, rfl⟩) | fail)
      refine (flush_any d p q n F6 s6 o6 _ HP6.out (HF6.out.less (by omega))).mono ?_
      rintro e w7 ⟨rfl, h7, m7⟩
      rw [← show (s7, o7) = does (s6, o6) .flush from HX7.out] at h7
      have HP7 := Lib.hid h7
      have HM7 := Lib.hid (HM6.out.trans m7)
      clear h7 m7
    case' false =>
      obtain ⟨w7, rfl⟩ : ∃ x, x = w6 := ⟨_, rfl⟩
      have e67 : (s7, o7) = (s6, o6) := HX7.out
      injection e67 with ea eb
      have HP7 : Hid (Pen d p q n F6 s7 o7 w7) := Lib.hid (by rw [ea, eb]; exact HP6.out)
      have HM7 := HM6
      clear ea eb
    all_goals
      go_wp2_with (first | (go_at_call 84; refine (HPR.out _).mono ?_; rintro e w' ⟨rfl, rfl⟩) | (go_at_call 59; rw [EA1.out]; refine (CW8.out F6 _ HP7.out).mono ?_; rintro e w8 ⟨rfl, F8, h8, m8⟩; have HP8 := Lib.hid h8; have HM8 := Lib.hid (HM7.out.trans m8); clear h8 m8) | fail)
      have HC9 := Lib.hid (fun (F : List Nat) (v : World) (h : Pen d p q n F s8 o8 v) => flush_any d p q n F s8 o8 v h (HF8.out.less (by omega)))
      have HC11 := Lib.hid (fun (F : List Nat) (v : World) (h : Pen d p q n F s10 o10 v) => flush_any d p q n F s10 o10 v h HF10.out)
      rw [HE9.out] at HC9
      rw [HE11.out] at HC11
      refine (HC9.out F8 _ HP8.out).mono ?_
      rintro e w9 ⟨rfl, h9, m9⟩
      have HP9 := Lib.hid h9
      have HM9 := Lib.hid (HM8.out.trans m9)
      clear h9 m9
      go_wp2_with (first | (go_at_call 59; refine (CW10.out F8 _ HP9.out).mono ?_; rintro e w10 ⟨rfl, F10, h10, m10⟩; have HP10 := Lib.hid h10; have HM10 := Lib.hid (HM9.out.trans m10); clear h10 m10) | fail)
      refine (HC11.out F10 _ HP10.out).mono ?_
      rintro e w11 ⟨rfl, h11, m11⟩
      have HM11 := Lib.hid ((HM10.out.trans m11).more (Y := [p]) (fun x hx => by
        have := HRW.out
        simp only [List.mem_cons, List.not_mem_nil, or_false] at hx
        rcases hx with rfl | rfl
        · exact Or.inr (by omega)
        · exact Or.inl (by simp)))
      have HP11 := Lib.hid h11
      clear h11 m11
      cases o11 with
      | true =>
        have c1 : w11.cell? ⟨q, 1, none⟩ = some .nilIface := by rw [cell_of_list HP11.out.fine]; rfl
        go_wp2_with (first | (go_at_call 54; refine (wrapped_nil _).mono ?_; rintro e w12 ⟨rfl, hb12⟩) | fail)
        go_ret
        rw [HFIN.out]
        exact ⟨F10, HP11.out.dsk.below hb12, HM11.out.trans (Mv.below _ _ hb12), Or.inl ⟨rfl, rfl⟩⟩
      | false =>
        obtain ⟨g, hq, hf⟩ := HP11.out.stuck
        have c1 : w11.cell? ⟨q, 1, none⟩ = some (faultV g) := by rw [cell_of_list hq]; rfl
        have hWC : ErrCell w11 := by
          rcases HW.out with h1 | h1
          · exfalso
            have e2 := congrArg Prod.snd HFIN.out
            rw [h1] at e2
            cases e2
          · exact (h1.mv HM11.out).1
        have HWC := Lib.hid (wrapped_fault g w11 hWC hf)
        unfold faultV at c1 HWC
        have HFA := Lib.hid hf
        clear hq hf hWC
        go_wp2_with fail
        refine HWC.out.mono ?_
        rintro e w12 ⟨g', hg', rfl, hgf, hb12⟩
        have HGF := Lib.hid hgf
        have HB12 := Lib.hid hb12
        clear hgf hb12
        go_wp2_with fail
        go_ret
        rw [HFIN.out]
        exact ⟨F10, HP11.out.dsk.below HB12.out, HM11.out.trans (Mv.below _ _ HB12.out), Or.inr ⟨rfl, g, g', Nat.le_trans HM11.out.size hg', rfl, HGF.out, HFA.out.keep (HB12.out.block g HFA.out.lt)⟩⟩
end Go.Proofs.YtmobjpandmdmdaaGreatDoor
