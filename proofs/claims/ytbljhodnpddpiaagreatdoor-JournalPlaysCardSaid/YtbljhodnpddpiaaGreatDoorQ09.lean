/- Several texts in one, in the order in which they build: JLay JEpoch. -/
import Derived.Test.YtbljhodnpddpiaaGreatDoorQ08
import Derived.BigQuiet
import Derived.Deep.QuietTactic
/- The walks of a row's start, of the errors that are wrapped, of lay and blank. -/
namespace Go.Proofs.YtbljhodnpddpiaaGreatDoor
open Go.RowKit

/-- A journal's row of sectors. -/
def rowV (d from_ m : Nat) : Value := .agg #[.pointer (some ⟨d, 0, none⟩), .int .i64 from_, .int .i64 m]
theorem rowV_eq (d from_ m : Nat) : rowV d from_ m = .agg #[.pointer (some ⟨d, 0, none⟩), .int .i64 from_, .int .i64 m] := rfl
set_option maxHeartbeats 1000000 in
theorem start_0 (d from_ m : Nat) (h : from_ + m ≤ 8192) (w : World) : Calls Tryz.prog 57 #[rowV d from_ m, .int .i64 0] w fun e w' => e = .returned (.int .i64 from_) ∧ Below w.heap.size w w' := by
  unfold rowV
  go_enter Tryz.func57, Tryz.ntmps57
  go_wp2
  go_ret
  exact ⟨rfl, (Below.refl _ _).alloc (Nat.le_refl _) _⟩
set_option maxHeartbeats 1000000 in
theorem start_1 (d from_ m : Nat) (h : from_ + m ≤ 8192) (w : World) : Calls Tryz.prog 57 #[rowV d from_ m, .int .i64 1] w fun e w' => e = .returned (.int .i64 (from_ + m : Nat)) ∧ Below w.heap.size w w' := by
  unfold rowV
  go_enter Tryz.func57, Tryz.ntmps57
  go_wp2
  go_ret
  exact ⟨rfl, (Below.refl _ _).alloc (Nat.le_refl _) _⟩
theorem start_any (d from_ m half b : Nat) (hh : half ≤ 1) (hb : b = from_ + half * m) (h : from_ + m ≤ 8192) (w : World) : Calls Tryz.prog 57 #[rowV d from_ m, .int .i64 half] w fun e w' => e = .returned (.int .i64 b) ∧ Below w.heap.size w w' := by
  have : half = 0 ∨ half = 1 := by omega
  subst hb
  rcases this with rfl | rfl
  · rw [Nat.zero_mul, Nat.add_zero]; exact start_0 d from_ m h w
  · rw [Nat.one_mul]; exact start_1 d from_ m h w
theorem As_nil (v : Value) (w : World) : Calls Tryz.prog 50 #[.nilIface, v] w fun e w' => e = .returned (.bool false) ∧ w = w' := by
  go_enter Tryz.func50, Tryz.ntmps50
  go_wp2
  go_ret
  exact ⟨rfl, rfl⟩
theorem wrapped_nil (w : World) : Calls Tryz.prog 59 #[.nilIface] w fun e w' => e = .returned .nilIface ∧ Below w.heap.size w w' := by
  go_enter Tryz.func59, Tryz.ntmps59
  go_wp2_with (go_at_call 50; refine (As_nil _ _).mono ?_; rintro e w' ⟨rfl, rfl⟩)
  go_ret
  exact ⟨rfl, (Below.refl _ _).alloc (Nat.le_refl _) _⟩
theorem Mv.of_kept {X Y F : List Nat} {w w' : World} (h : Kept w.heap.size X w w') (hs : ∀ x ∈ X, x ∈ Y) : Mv Y F F w w' := ⟨h.mono (Nat.le_refl _) (fun x _ hm => List.mem_append.2 (Or.inl (hs x hm))), fun _ hx => Or.inl hx⟩
theorem read_one (d p q n : Nat) (F : List Nat) (st : St) (a : Nat) (ha : a < n) (hn : n ≤ 8192) (w : World) (h : Pen d p q n F st true w) :
    Calls Tryz.prog 76 #[.pointer (some ⟨q, 0, none⟩), .int .i64 a, .int .i64 1] w fun e w' => e = .returned (.string (bs (Dk.readAt st.S st.ps a))) ∧ Pen d p q n F st true w' ∧ Kept w.heap.size [q] w w' := by
  have := read_any d p q n F st a 1 (by omega) hn w h
  rw [rd_one] at this
  exact this
/-- What lay does. -/
def layActs (a : Nat) (mk : Bool) (first : List UInt8) (rest : List (List UInt8)) : List Do :=
  puts a [0 :: first.drop 1] ++ ((if mk then [.flush] else []) ++ (puts (a + 1) rest ++ [.flush, .put a first, .flush]))
/-- What a text's first sector and the others are. -/
theorem flat_cons (x : List UInt8) (ss : List (List UInt8)) : (x :: ss).flatten = x ++ ss.flatten := rfl
theorem wide_one {x : List UInt8} (h : x.length = 64) : Wide [x] := fun s hs => by simp at hs; rw [hs]; exact h
theorem unmarked_64 {x : List UInt8} (h : x.length = 64) : (0 :: x.drop 1).length = 64 := by rw [List.length_cons, List.length_drop, h]
theorem run_rest1 {s q : ByteArray} (h : 1 ≤ s.size) (hq : s.extract 1 s.size = q) (w : World) : (Instr.slice 9 (.string s) (some (.int .i64 1)) none none).run Tryz.prog w = .ok (.string q) w := by
  rw [run_slice_string_from_if w 9 s .i64 1 Tryz.underlying9, if_pos (by omega), ← hq]; rfl
/-- What errors.As reads is laid, and lies beside the disk. -/
def WrapC (p : Nat) (F : List Nat) (w : World) : Prop := ErrCell w ∧ 0 ≠ p ∧ 0 ∉ F
theorem WrapC.mv {p : Nat} {F F' : List Nat} {w w' : World} (h : WrapC p F w) (hm : Mv [p] F F' w w') : WrapC p F' w' := by
  refine ⟨h.1.keep (hm.block h.1.lt (by simp; exact h.2.1) h.2.2), h.2.1, fun h0 => ?_⟩
  have hl := h.1.lt
  rcases hm.foot 0 h0 with h1 | h1
  · exact h.2.2 h1
  · omega
theorem does_free {st : St} (h : st.fuse = -1) (o : Do) : does (st, true) o = (st.did o, true) ∧ (st.did o).fuse = -1 := by
  refine ⟨does_on (by omega) o, ?_⟩
  cases o <;> (show less st.fuse = -1; rw [h]; rfl)
theorem doAll_free {st : St} (os : List Do) (h : st.fuse = -1) : (doAll (st, true) os).2 = true ∧ (doAll (st, true) os).1.fuse = -1 := by
  induction os generalizing st with
  | nil => exact ⟨rfl, h⟩
  | cons o os ih =>
    obtain ⟨h1, h2⟩ := does_free h o
    rw [doAll_cons, h1]
    exact ih h2
theorem allocPen (w : World) : (Instr.alloc 113 true (.tuple #[])).run Tryz.prog w = .ok (.pointer (some ⟨w.heap.size, 0, none⟩)) (w.alloc (.cells [Value.pointer none, .nilIface].toArray 113)) := by kernel_rfl
set_option maxRecDepth 100000 in
set_option maxHeartbeats 2000000 in
theorem lay_any (d p n : Nat) (F : List Nat) (st : St) (from_ m half at_ : Nat) (first : List UInt8) (rest : List (List UInt8)) (hfirst : first.length = 64) (hrest : Wide rest) (hm : from_ + 2 * m ≤ n) (hn : n ≤ 8192) (hh : half ≤ 1) (hat : at_ + 1 + rest.length ≤ m)
    (more : List (List UInt8)) (hmore : more = if at_ + 1 + rest.length < m then [z64] else []) (a : Nat) (hae : a = from_ + half * m + at_) (w : World) (h : Dsk d p n F st true w) (hf : st.Fit (rest.length + 6)) (mk : Bool) (hmk : mk = Lib.hasPrefix (Dk.readAt st.S st.ps a) [1]) (X : St × Bool) (hX : X = doAll (st, true) (layActs a mk first (rest ++ more))) (hW : X.2 = true ∨ WrapC p F w) :
    Calls Tryz.prog 69 #[rowV d from_ m, .int .i64 half, .int .i64 at_, .string (bs (first ++ rest.flatten))] w fun e w' => ∃ F', Dsk d p n F' X.1 X.2 w' ∧ Mv [p] F F' w w' ∧
      ((X.2 = true ∧ e = .returned .nilIface) ∨ (X.2 = false ∧ ∃ g g' : Nat, w.heap.size ≤ g' ∧ e = .returned (faultV g') ∧ w'.heap[g']? = some (.cells [Value.int .i64 10, .int .i64 0, faultV g].toArray 95 (0, 0)) ∧ FaultAt g 10 0 w')) := by
  obtain ⟨b, hb⟩ : ∃ b, b = from_ + half * m := ⟨_, rfl⟩
  have hbm : half * m ≤ m := by have : half = 0 ∨ half = 1 := by omega
                                rcases this with rfl | rfl <;> omega
  rw [← hb] at hae
  obtain ⟨t, ht⟩ : ∃ t, t = bs (first ++ rest.flatten) := ⟨_, rfl⟩
  have hts : t.size = 64 * (1 + rest.length) := by rw [ht, bs_size, List.length_append, hrest.flat, hfirst]; omega
  obtain ⟨t0, ht0⟩ : ∃ t, t = bs first := ⟨_, rfl⟩
  obtain ⟨t1, ht1⟩ : ∃ t, t = bs rest.flatten := ⟨_, rfl⟩
  have hcut : ∀ v : World, (Instr.slice 9 (.string t) none (some (.int .i64 64)) none).run Tryz.prog v = .ok (.string t0) v := run_cut64 (by omega) (by rw [ht, bs_cut hfirst, ht0])
  have hrst : ∀ v : World, (Instr.slice 9 (.string t) (some (.int .i64 64)) none none).run Tryz.prog v = .ok (.string t1) v := run_rest64 (by omega) (by rw [ht, bs_rest hfirst, ht1])
  obtain ⟨t2, ht2⟩ : ∃ t, t = bs (first.drop 1) := ⟨_, rfl⟩
  have hr1 : ∀ v : World, (Instr.slice 9 (.string t0) (some (.int .i64 1)) none none).run Tryz.prog v = .ok (.string t2) v := run_rest1 (by rw [ht0, bs_size]; omega) (by rw [ht2]; apply bs_of; rw [extract_from, ht0, bs_list])
  have ht0s : t0.size = 64 := by rw [ht0, bs_size, hfirst]
  have ht1s : t1.size = 64 * rest.length := by rw [ht1, bs_size, hrest.flat]; omega
  have ht2s : t2.size = 63 := by rw [ht2, bs_size, List.length_drop, hfirst]
  rw [← ht]
  have H := Lib.hid h
  have HX := Lib.hid hX
  have HMK := Lib.hid hmk
  have HW := Lib.hid hW
  have HF := Lib.hid hf
  have HB := Lib.hid hb
  have HA := Lib.hid hae
  have HMO := Lib.hid hmore
  have HT0 := Lib.hid ht0
  have HT1 := Lib.hid ht1
  have HT2 := Lib.hid ht2
  have HTS := Lib.hid hts
  clear h hX hmk hW hf hb hae hmore ht ht0 ht1 ht2
  unfold rowV
  go_enter Tryz.func69, Tryz.ntmps69
  go_wp2_with (first | (refine wpList_alloc rfl 113 rfl _ allocPen ?_; go_frame) | fail)
  obtain ⟨r, hr⟩ : ∃ r, r = w.heap.size := ⟨_, rfl⟩
  obtain ⟨q, hq⟩ : ∃ q, q = (w.alloc (.cells #[Value.pointer (some ⟨d, 0, none⟩), .int .i64 from_, .int .i64 m] 75)).heap.size := ⟨_, rfl⟩
  obtain ⟨w2, hw2⟩ : ∃ x, x = (w.alloc (.cells #[Value.pointer (some ⟨d, 0, none⟩), .int .i64 from_, .int .i64 m] 75)).alloc (.cells #[Value.pointer (some ⟨d, 0, none⟩), .nilIface] 113) := ⟨_, rfl⟩
  rw [← hq, ← hw2, ← hr]
  have hqr : q = r + 1 := by rw [hq, hr]; simp
  have hb2 : Below w.heap.size w w2 := by rw [hw2]; exact ((Below.refl _ _).alloc (Nat.le_refl _) _).alloc (by simp) _
  have hg2 : w2.heap[r]? = some (.cells [Value.pointer (some ⟨d, 0, none⟩), .int .i64 from_, .int .i64 m].toArray 75 (0, 0)) := by rw [hw2, hr]; exact heap_alloc2_old _ _ _
  have hp2 : w2.heap[q]? = some (.cells [Value.pointer (some ⟨d, 0, none⟩), .nilIface].toArray 113 (0, 0)) := by rw [hw2, hqr, hr]; exact heap_alloc2_new _ _ _
  have hD2 := H.out.below hb2
  have hFl := H.out.Flt
  have hpl := H.out.pow.lt
  have hP2 : Pen d p q n F st true w2 := Pen.new hD2 hp2 (fun hm => by have := hFl q hm; omega) (by omega)
  have hM2 : Mv [q, p] F F w w2 := Mv.below _ _ hb2
  have e0 : w2.drew.cell? ⟨r, 0, none⟩ = some (.pointer (some ⟨d, 0, none⟩)) := by show w2.cell? _ = _; rw [cell_of_list hg2]; rfl
  have e1 : w2.drew.cell? ⟨r, 1, none⟩ = some (.int .i64 from_) := by show w2.cell? _ = _; rw [cell_of_list hg2]; rfl
  have e2 : w2.drew.cell? ⟨r, 2, none⟩ = some (.int .i64 m) := by show w2.cell? _ = _; rw [cell_of_list hg2]; rfl
  have hr2 : r < w2.heap.size := lt_of_heap hg2
  have q64 : (t.size : Int) / 64 = 1 + (rest.length : Int) := by omega
  have HP := Lib.hid hP2
  have HM := Lib.hid hM2
  have HG2 := Lib.hid hg2
  have HRW := Lib.hid (And.intro hr hqr)
  clear hw2 hb2 hg2 hp2 hD2 hP2 hM2 hq hFl hpl hr hqr
  go_quiet (fail)
  obtain ⟨w3, hw3⟩ : ∃ x, x = w2.drewN nq := ⟨_, rfl⟩
  have HP3 : Hid (Pen d p q n F st true w3) := Lib.hid (by rw [hw3]; exact HP.out.below (below_drewN (Below.refl _ _) nq))
  have HM3 : Hid (Mv [q, p] F F w w3) := Lib.hid (by rw [hw3]; exact HM.out.trans (Mv.below _ _ (below_drewN (Below.refl _ _) nq)))
  have e0 : w3.cell? ⟨r, 0, none⟩ = some (.pointer (some ⟨d, 0, none⟩)) := by rw [hw3]; exact e0
  have e1 : w3.cell? ⟨r, 1, none⟩ = some (.int .i64 from_) := by rw [hw3]; exact e1
  have e2 : w3.cell? ⟨r, 2, none⟩ = some (.int .i64 m) := by rw [hw3]; exact e2
  have hr3 : r < w3.heap.size := by rw [hw3, World.heap_drewN]; exact hr2
  rw [← hw3]
  clear hw3 HP HM hr2
  have EA := Lib.hid (show (at_ : Int) + (b : Int) = (a : Int) by have := HA.out; omega)
  have ET0 := Lib.hid (show ((⟨#[0]⟩ : ByteArray) ++ t2) = bs ([0 :: first.drop 1] : List (List UInt8)).flatten by
    rw [HT2.out, show (⟨#[0]⟩ : ByteArray) = bs [0] from bs_of rfl, bs_append]; simp)
  have han : a < n := by have := HA.out; have := HB.out; omega
  have hbb : b ≤ 8192 := by have := HB.out; omega
  by_cases hroom : at_ + 1 + rest.length < m
  · as_aux_lemma =>
    have hmo : more = [z64] := by rw [HMO.out, if_pos hroom]
    have HML := Lib.hid (show more.length ≤ 1 ∧ Wide more ∧ at_ + 1 + (rest ++ more).length ≤ m by
      rw [hmo]; exact ⟨by simp, wide_one length_z64, by simp; omega⟩)
    obtain ⟨t3, ht3⟩ : ∃ t, t = t1 ++ bs z64 := ⟨_, rfl⟩
    have ET1 := Lib.hid (show t3 = bs (rest ++ more).flatten by rw [ht3, HT1.out, bs_append, hmo]; simp)
    have ht3' : t1 ++ bs z64 = t3 := ht3.symm
    have hcond : (at_ : Int) + (1 + (rest.length : Int)) < (m : Int) := by omega
    have hz64 : (bs z64).size = 64 := by rw [bs_size, length_z64]
    clear ht3 hmo
    go_wp2_with (first | (go_at_call 58; refine (empty_any _).mono ?_; rintro e w4 ⟨rfl, hb4⟩; have e0 := (hb4.cell (p := ⟨r, 0, none⟩) hr3).trans e0; have e1 := (hb4.cell (p := ⟨r, 1, none⟩) hr3).trans e1; have e2 := (hb4.cell (p := ⟨r, 2, none⟩) hr3).trans e2; have HP4 := Lib.hid (HP3.out.below hb4); have HM4 := Lib.hid (HM3.out.trans (Mv.below _ _ hb4)); clear hb4) | (go_at_call 57; refine (start_any d from_ m half b hh HB.out (by omega) _).mono ?_; rintro e w5 ⟨rfl, hb5⟩; replace HP4 := Lib.hid (HP4.out.below hb5); replace HM4 := Lib.hid (HM4.out.trans (Mv.below _ _ hb5)); clear hb5) | (go_at_call 76; rw [EA.out]; refine (read_one d p q n F st a han hn _ HP4.out).mono ?_; rintro e w5 ⟨rfl, h5, m5⟩; have HP5 := Lib.hid h5; have HM5 := Lib.hid (HM4.out.trans (Mv.of_kept m5 (fun x hx => by simp at hx; simp [hx]))); clear h5 m5) | fail)
    clear ht3' hz64 hcond
    rw [ET0.out]

    have hfit1 := HF.out
    have hrw := HRW.out
    -- the read, and the first sector without its mark
    have hD := HP4.out.dsk
    refine (write_any d p q n F st true a [0 :: first.drop 1] (wide_one (unmarked_64 hfirst)) (by rw [List.length_singleton]; omega) hn _ HP5.out (hfit1.less (by simp))).mono ?_
    rintro e w6 ⟨rfl, F6, h6, m6⟩
    obtain ⟨s6, o6, he6⟩ : ∃ s o, doAll (st, true) (puts a [0 :: first.drop 1]) = (s, o) := ⟨_, _, rfl⟩
    rw [he6] at h6
    have hf6 : s6.Fit (rest.length + 5) := by
      have := St.Fit.doAll (m := rest.length + 5) (puts a [0 :: first.drop 1]) (st := st) (hfit1.less (by simp [puts])) true
      rw [he6] at this; exact this
    have HP6 := Lib.hid h6
    have HM6 := Lib.hid (HM5.out.trans m6)
    have HE6 := Lib.hid he6
    have HF6 := Lib.hid hf6
    clear h6 m6 he6 hf6 hfit1 hrw hD
    have HPR := Lib.hid (fun v : World => (show Calls Tryz.prog 88 #[.string (bs (Dk.readAt st.S st.ps a)), .string ⟨#[1]⟩] v (fun e w' => e = .returned (.bool mk) ∧ v = w') by
      refine (j_strings_HasPrefix (bs (Dk.readAt st.S st.ps a)) ⟨#[1]⟩ v).mono ?_
      rintro e w' ⟨rfl, rfl⟩
      rw [bs_list, show (ByteArray.mk #[1]).data.toList = [1] from rfl, ← HMK.out]
      exact ⟨rfl, rfl⟩))
    have hml : more.length ≤ 1 := HML.out.1
    have hwide : Wide (rest ++ more) := fun s hs => by
      rcases List.mem_append.1 hs with h1 | h1
      · exact hrest s h1
      · exact HML.out.2.1 s h1
    have hlen1 : (rest ++ more).length ≤ rest.length + 1 := by rw [List.length_append]; omega
    have hroom1 : a + 1 + (rest ++ more).length ≤ n := by have := HML.out.2.2; have := HA.out; have := HB.out; omega
    have EA1 := Lib.hid (show (a : Int) + 1 = ((a + 1 : Nat) : Int) by omega)
    have HX7 : ∃ s7 o7, (s7, o7) = (if mk then does (s6, o6) .flush else (s6, o6)) := ⟨_, _, rfl⟩
    obtain ⟨s7, o7, hX7⟩ := HX7
    have hf7 : s7.Fit (rest.length + 4) := by
      cases mk with
      | false => rw [if_neg (by simp)] at hX7; injection hX7 with e1 e2; rw [e1]; exact HF6.out.less (by omega)
      | true => rw [if_pos rfl] at hX7; have := HF6.out.does (m := rest.length + 4) o6 .flush; rw [← hX7] at this; exact this
    have HX7 := Lib.hid hX7
    have HF7 := Lib.hid hf7
    obtain ⟨s8, o8, he8⟩ : ∃ s o, doAll (s7, o7) (puts (a + 1) (rest ++ more)) = (s, o) := ⟨_, _, rfl⟩
    have hf8 : s8.Fit 3 := by
      have := St.Fit.doAll (m := 3) (puts (a + 1) (rest ++ more)) (st := s7) (hf7.less (by rw [length_puts]; omega)) o7
      rw [he8] at this; exact this
    obtain ⟨s9, o9, he9⟩ : ∃ s o, does (s8, o8) .flush = (s, o) := ⟨_, _, rfl⟩
    have hf9 : s9.Fit 2 := by have := hf8.does o8 .flush; rw [he9] at this; exact this
    obtain ⟨s10, o10, he10⟩ : ∃ s o, does (s9, o9) (.put a first) = (s, o) := ⟨_, _, rfl⟩
    have hf10 : s10.Fit 1 := by have := hf9.does o9 (.put a first); rw [he10] at this; exact this
    obtain ⟨s11, o11, he11⟩ : ∃ s o, does (s10, o10) .flush = (s, o) := ⟨_, _, rfl⟩
    have HFIN := Lib.hid (show X = (s11, o11) by
      rw [HX.out, layActs, doAll_append, HE6.out, doAll_append, show doAll (s6, o6) (if mk then [.flush] else []) = (s7, o7) by rw [hX7]; cases mk <;> rfl, doAll_append, he8, doAll_cons, he9, doAll_cons, he10, doAll_cons, he11]; rfl)
    have HE8 := Lib.hid he8
    have HE9 := Lib.hid he9
    have HE10 := Lib.hid he10
    have HE11 := Lib.hid he11
    have HF8 := Lib.hid hf8
    have HF9 := Lib.hid hf9
    have HF10 := Lib.hid hf10
    have CW8 := Lib.hid (fun (F : List Nat) (v : World) (h : Pen d p q n F s7 o7 v) => write_any d p q n F s7 o7 (a + 1) (rest ++ more) hwide hroom1 hn v h (hf7.less (by omega)))
    have CW10 := Lib.hid (fun (F : List Nat) (v : World) (h : Pen d p q n F s9 o9 v) => write_any d p q n F s9 o9 a [first] (wide_one hfirst) (by rw [List.length_singleton]; omega) hn v h (hf9.less (by simp)))
    rw [he8, ← ET1.out] at CW8
    rw [show ([first] : List (List UInt8)).flatten = first from by simp, ← HT0.out, show doAll (s9, o9) (puts a [first]) = (s10, o10) from he10] at CW10
    clear hX7 hf7 he8 hf8 he9 hf9 he10 hf10 he11 hlen1 hml hroom1 hwide hrst hcut hr1
    cases mk
    case' true =>
      go_wp2_with (first | (go_at_call 88; refine (HPR.out _).mono ?_; rintro e w' ⟨rfl, rfl⟩) | fail)
      refine (flush_any d p q n F6 s6 o6 _ HP6.out (HF6.out.less (by omega))).mono ?_
      rintro e w7 ⟨rfl, h7, m7⟩
      rw [← show (s7, o7) = does (s6, o6) .flush from HX7.out] at h7
      have HP7 := Lib.hid h7
      have HM7 := Lib.hid (HM6.out.trans m7)
      clear h7 m7
    case' false =>
      obtain ⟨w7, rfl⟩ : ∃ x, x = w6 := ⟨_, rfl⟩
      have e67 : (s7, o7) = (s6, o6) := HX7.out
      injection e67 with ea eb
      have HP7 : Hid (Pen d p q n F6 s7 o7 w7) := Lib.hid (by rw [ea, eb]; exact HP6.out)
      have HM7 := HM6
      clear ea eb
    all_goals
      go_wp2_with (first | (go_at_call 88; refine (HPR.out _).mono ?_; rintro e w' ⟨rfl, rfl⟩) | (go_at_call 56; rw [EA1.out]; refine (CW8.out F6 _ HP7.out).mono ?_; rintro e w8 ⟨rfl, F8, h8, m8⟩; have HP8 := Lib.hid h8; have HM8 := Lib.hid (HM7.out.trans m8); clear h8 m8) | fail)
      have HC9 := Lib.hid (fun (F : List Nat) (v : World) (h : Pen d p q n F s8 o8 v) => flush_any d p q n F s8 o8 v h (HF8.out.less (by omega)))
      have HC11 := Lib.hid (fun (F : List Nat) (v : World) (h : Pen d p q n F s10 o10 v) => flush_any d p q n F s10 o10 v h HF10.out)
      rw [HE9.out] at HC9
      rw [HE11.out] at HC11
      refine (HC9.out F8 _ HP8.out).mono ?_
      rintro e w9 ⟨rfl, h9, m9⟩
      have HP9 := Lib.hid h9
      have HM9 := Lib.hid (HM8.out.trans m9)
      clear h9 m9
      go_wp2_with (first | (go_at_call 56; refine (CW10.out F8 _ HP9.out).mono ?_; rintro e w10 ⟨rfl, F10, h10, m10⟩; have HP10 := Lib.hid h10; have HM10 := Lib.hid (HM9.out.trans m10); clear h10 m10) | fail)
      refine (HC11.out F10 _ HP10.out).mono ?_
      rintro e w11 ⟨rfl, h11, m11⟩
      have HM11 := Lib.hid ((HM10.out.trans m11).more (Y := [p]) (fun x hx => by
        have := HRW.out
        simp only [List.mem_cons, List.not_mem_nil, or_false] at hx
        rcases hx with rfl | rfl
        · exact Or.inr (by omega)
        · exact Or.inl (by simp)))
      have HP11 := Lib.hid h11
      clear h11 m11
      cases o11 with
      | true =>
        have c1 : w11.cell? ⟨q, 1, none⟩ = some .nilIface := by rw [cell_of_list HP11.out.fine]; rfl
        go_wp2_with (first | (go_at_call 59; refine (wrapped_nil _).mono ?_; rintro e w12 ⟨rfl, hb12⟩) | fail)
        go_ret
        rw [HFIN.out]
        exact ⟨F10, HP11.out.dsk.below hb12, HM11.out.trans (Mv.below _ _ hb12), Or.inl ⟨rfl, rfl⟩⟩
      | false =>
        obtain ⟨g, hq, hf⟩ := HP11.out.stuck
        have c1 : w11.cell? ⟨q, 1, none⟩ = some (faultV g) := by rw [cell_of_list hq]; rfl
        have hWC : ErrCell w11 := by
          rcases HW.out with h1 | h1
          · exfalso
            have e2 := congrArg Prod.snd HFIN.out
            rw [h1] at e2
            cases e2
          · exact (h1.mv HM11.out).1
        have HWC := Lib.hid (wrapped_fault g w11 hWC hf)
        unfold faultV at c1 HWC
        have HFA := Lib.hid hf
        clear hq hf hWC
        go_wp2_with fail
        refine HWC.out.mono ?_
        rintro e w12 ⟨g', hg', rfl, hgf, hb12⟩
        have HGF := Lib.hid hgf
        have HB12 := Lib.hid hb12
        clear hgf hb12
        go_wp2_with fail
        go_ret
        rw [HFIN.out]
        exact ⟨F10, HP11.out.dsk.below HB12.out, HM11.out.trans (Mv.below _ _ HB12.out), Or.inr ⟨rfl, g, g', Nat.le_trans HM11.out.size hg', rfl, HGF.out, HFA.out.keep (HB12.out.block g HFA.out.lt)⟩⟩
  · as_aux_lemma =>
    have hmo : more = [] := by rw [HMO.out, if_neg hroom]
    have HML := Lib.hid (show more.length ≤ 1 ∧ Wide more ∧ at_ + 1 + (rest ++ more).length ≤ m by
      rw [hmo]; exact ⟨by simp, by intro s hs; simp at hs, by simp; omega⟩)
    obtain ⟨t3, rfl⟩ : ∃ t, t = t1 := ⟨_, rfl⟩
    have ET1 := Lib.hid (show t3 = bs (rest ++ more).flatten by rw [HT1.out, hmo]; simp)
    have hcond : ¬ (at_ : Int) + (1 + (rest.length : Int)) < (m : Int) := by omega
    obtain ⟨w4, rfl⟩ : ∃ x, x = w3 := ⟨_, rfl⟩
    have HP4 := HP3
    have HM4 := HM3
    clear hmo
    go_wp2_with (first | (go_at_call 57; refine (start_any d from_ m half b hh HB.out (by omega) _).mono ?_; rintro e w5 ⟨rfl, hb5⟩; replace HP4 := Lib.hid (HP4.out.below hb5); replace HM4 := Lib.hid (HM4.out.trans (Mv.below _ _ hb5)); clear hb5) | (go_at_call 76; rw [EA.out]; refine (read_one d p q n F st a han hn _ HP4.out).mono ?_; rintro e w5 ⟨rfl, h5, m5⟩; have HP5 := Lib.hid h5; have HM5 := Lib.hid (HM4.out.trans (Mv.of_kept m5 (fun x hx => by simp at hx; simp [hx]))); clear h5 m5) | fail)
    rw [ET0.out]
    clear hcond hr3

    have hfit1 := HF.out
    have hrw := HRW.out
    -- the read, and the first sector without its mark
    have hD := HP4.out.dsk
    refine (write_any d p q n F st true a [0 :: first.drop 1] (wide_one (unmarked_64 hfirst)) (by rw [List.length_singleton]; omega) hn _ HP5.out (hfit1.less (by simp))).mono ?_
    rintro e w6 ⟨rfl, F6, h6, m6⟩
    obtain ⟨s6, o6, he6⟩ : ∃ s o, doAll (st, true) (puts a [0 :: first.drop 1]) = (s, o) := ⟨_, _, rfl⟩
    rw [he6] at h6
    have hf6 : s6.Fit (rest.length + 5) := by
      have := St.Fit.doAll (m := rest.length + 5) (puts a [0 :: first.drop 1]) (st := st) (hfit1.less (by simp [puts])) true
      rw [he6] at this; exact this
    have HP6 := Lib.hid h6
    have HM6 := Lib.hid (HM5.out.trans m6)
    have HE6 := Lib.hid he6
    have HF6 := Lib.hid hf6
    clear h6 m6 he6 hf6 hfit1 hrw hD
    have HPR := Lib.hid (fun v : World => (show Calls Tryz.prog 88 #[.string (bs (Dk.readAt st.S st.ps a)), .string ⟨#[1]⟩] v (fun e w' => e = .returned (.bool mk) ∧ v = w') by
      refine (j_strings_HasPrefix (bs (Dk.readAt st.S st.ps a)) ⟨#[1]⟩ v).mono ?_
      rintro e w' ⟨rfl, rfl⟩
      rw [bs_list, show (ByteArray.mk #[1]).data.toList = [1] from rfl, ← HMK.out]
      exact ⟨rfl, rfl⟩))
    have hml : more.length ≤ 1 := HML.out.1
    have hwide : Wide (rest ++ more) := fun s hs => by
      rcases List.mem_append.1 hs with h1 | h1
      · exact hrest s h1
      · exact HML.out.2.1 s h1
    have hlen1 : (rest ++ more).length ≤ rest.length + 1 := by rw [List.length_append]; omega
    have hroom1 : a + 1 + (rest ++ more).length ≤ n := by have := HML.out.2.2; have := HA.out; have := HB.out; omega
    have EA1 := Lib.hid (show (a : Int) + 1 = ((a + 1 : Nat) : Int) by omega)
    have HX7 : ∃ s7 o7, (s7, o7) = (if mk then does (s6, o6) .flush else (s6, o6)) := ⟨_, _, rfl⟩
    obtain ⟨s7, o7, hX7⟩ := HX7
    have hf7 : s7.Fit (rest.length + 4) := by
      cases mk with
      | false => rw [if_neg (by simp)] at hX7; injection hX7 with e1 e2; rw [e1]; exact HF6.out.less (by omega)
      | true => rw [if_pos rfl] at hX7; have := HF6.out.does (m := rest.length + 4) o6 .flush; rw [← hX7] at this; exact this
    have HX7 := Lib.hid hX7
    have HF7 := Lib.hid hf7
    obtain ⟨s8, o8, he8⟩ : ∃ s o, doAll (s7, o7) (puts (a + 1) (rest ++ more)) = (s, o) := ⟨_, _, rfl⟩
    have hf8 : s8.Fit 3 := by
      have := St.Fit.doAll (m := 3) (puts (a + 1) (rest ++ more)) (st := s7) (hf7.less (by rw [length_puts]; omega)) o7
      rw [he8] at this; exact this
    obtain ⟨s9, o9, he9⟩ : ∃ s o, does (s8, o8) .flush = (s, o) := ⟨_, _, rfl⟩
    have hf9 : s9.Fit 2 := by have := hf8.does o8 .flush; rw [he9] at this; exact this
    obtain ⟨s10, o10, he10⟩ : ∃ s o, does (s9, o9) (.put a first) = (s, o) := ⟨_, _, rfl⟩
    have hf10 : s10.Fit 1 := by have := hf9.does o9 (.put a first); rw [he10] at this; exact this
    obtain ⟨s11, o11, he11⟩ : ∃ s o, does (s10, o10) .flush = (s, o) := ⟨_, _, rfl⟩
    have HFIN := Lib.hid (show X = (s11, o11) by
      rw [HX.out, layActs, doAll_append, HE6.out, doAll_append, show doAll (s6, o6) (if mk then [.flush] else []) = (s7, o7) by rw [hX7]; cases mk <;> rfl, doAll_append, he8, doAll_cons, he9, doAll_cons, he10, doAll_cons, he11]; rfl)
    have HE8 := Lib.hid he8
    have HE9 := Lib.hid he9
    have HE10 := Lib.hid he10
    have HE11 := Lib.hid he11
    have HF8 := Lib.hid hf8
    have HF9 := Lib.hid hf9
    have HF10 := Lib.hid hf10
    have CW8 := Lib.hid (fun (F : List Nat) (v : World) (h : Pen d p q n F s7 o7 v) => write_any d p q n F s7 o7 (a + 1) (rest ++ more) hwide hroom1 hn v h (hf7.less (by omega)))
    have CW10 := Lib.hid (fun (F : List Nat) (v : World) (h : Pen d p q n F s9 o9 v) => write_any d p q n F s9 o9 a [first] (wide_one hfirst) (by rw [List.length_singleton]; omega) hn v h (hf9.less (by simp)))
    rw [he8, ← ET1.out] at CW8
    rw [show ([first] : List (List UInt8)).flatten = first from by simp, ← HT0.out, show doAll (s9, o9) (puts a [first]) = (s10, o10) from he10] at CW10
    clear hX7 hf7 he8 hf8 he9 hf9 he10 hf10 he11 hlen1 hml hroom1 hwide hrst hcut hr1
    cases mk
    case' true =>
      go_wp2_with (first | (go_at_call 88; refine (HPR.out _).mono ?_; rintro e w' ⟨rfl, rfl⟩) | fail)
      refine (flush_any d p q n F6 s6 o6 _ HP6.out (HF6.out.less (by omega))).mono ?_
      rintro e w7 ⟨rfl, h7, m7⟩
      rw [← show (s7, o7) = does (s6, o6) .flush from HX7.out] at h7
      have HP7 := Lib.hid h7
      have HM7 := Lib.hid (HM6.out.trans m7)
      clear h7 m7
    case' false =>
      obtain ⟨w7, rfl⟩ : ∃ x, x = w6 := ⟨_, rfl⟩
      have e67 : (s7, o7) = (s6, o6) := HX7.out
      injection e67 with ea eb
      have HP7 : Hid (Pen d p q n F6 s7 o7 w7) := Lib.hid (by rw [ea, eb]; exact HP6.out)
      have HM7 := HM6
      clear ea eb
    all_goals
      go_wp2_with (first | (go_at_call 88; refine (HPR.out _).mono ?_; rintro e w' ⟨rfl, rfl⟩) | (go_at_call 56; rw [EA1.out]; refine (CW8.out F6 _ HP7.out).mono ?_; rintro e w8 ⟨rfl, F8, h8, m8⟩; have HP8 := Lib.hid h8; have HM8 := Lib.hid (HM7.out.trans m8); clear h8 m8) | fail)
      have HC9 := Lib.hid (fun (F : List Nat) (v : World) (h : Pen d p q n F s8 o8 v) => flush_any d p q n F s8 o8 v h (HF8.out.less (by omega)))
      have HC11 := Lib.hid (fun (F : List Nat) (v : World) (h : Pen d p q n F s10 o10 v) => flush_any d p q n F s10 o10 v h HF10.out)
      rw [HE9.out] at HC9
      rw [HE11.out] at HC11
      refine (HC9.out F8 _ HP8.out).mono ?_
      rintro e w9 ⟨rfl, h9, m9⟩
      have HP9 := Lib.hid h9
      have HM9 := Lib.hid (HM8.out.trans m9)
      clear h9 m9
      go_wp2_with (first | (go_at_call 56; refine (CW10.out F8 _ HP9.out).mono ?_; rintro e w10 ⟨rfl, F10, h10, m10⟩; have HP10 := Lib.hid h10; have HM10 := Lib.hid (HM9.out.trans m10); clear h10 m10) | fail)
      refine (HC11.out F10 _ HP10.out).mono ?_
      rintro e w11 ⟨rfl, h11, m11⟩
      have HM11 := Lib.hid ((HM10.out.trans m11).more (Y := [p]) (fun x hx => by
        have := HRW.out
        simp only [List.mem_cons, List.not_mem_nil, or_false] at hx
        rcases hx with rfl | rfl
        · exact Or.inr (by omega)
        · exact Or.inl (by simp)))
      have HP11 := Lib.hid h11
      clear h11 m11
      cases o11 with
      | true =>
        have c1 : w11.cell? ⟨q, 1, none⟩ = some .nilIface := by rw [cell_of_list HP11.out.fine]; rfl
        go_wp2_with (first | (go_at_call 59; refine (wrapped_nil _).mono ?_; rintro e w12 ⟨rfl, hb12⟩) | fail)
        go_ret
        rw [HFIN.out]
        exact ⟨F10, HP11.out.dsk.below hb12, HM11.out.trans (Mv.below _ _ hb12), Or.inl ⟨rfl, rfl⟩⟩
      | false =>
        obtain ⟨g, hq, hf⟩ := HP11.out.stuck
        have c1 : w11.cell? ⟨q, 1, none⟩ = some (faultV g) := by rw [cell_of_list hq]; rfl
        have hWC : ErrCell w11 := by
          rcases HW.out with h1 | h1
          · exfalso
            have e2 := congrArg Prod.snd HFIN.out
            rw [h1] at e2
            cases e2
          · exact (h1.mv HM11.out).1
        have HWC := Lib.hid (wrapped_fault g w11 hWC hf)
        unfold faultV at c1 HWC
        have HFA := Lib.hid hf
        clear hq hf hWC
        go_wp2_with fail
        refine HWC.out.mono ?_
        rintro e w12 ⟨g', hg', rfl, hgf, hb12⟩
        have HGF := Lib.hid hgf
        have HB12 := Lib.hid hb12
        clear hgf hb12
        go_wp2_with fail
        go_ret
        rw [HFIN.out]
        exact ⟨F10, HP11.out.dsk.below HB12.out, HM11.out.trans (Mv.below _ _ HB12.out), Or.inr ⟨rfl, g, g', Nat.le_trans HM11.out.size hg', rfl, HGF.out, HFA.out.keep (HB12.out.block g HFA.out.lt)⟩⟩
end Go.Proofs.YtbljhodnpddpiaaGreatDoor

/- The walks of epochOf and recordsOf. -/
namespace Go.Proofs.YtbljhodnpddpiaaGreatDoor
open Go.RowKit

def title : List UInt8 := [106, 111, 117, 114, 110, 97, 108]
theorem title_bs : bs title = ⟨#[106, 111, 117, 114, 110, 97, 108]⟩ := (bs_of (s := ⟨#[106, 111, 117, 114, 110, 97, 108]⟩) rfl).symm
theorem Unpack_short (s : ByteArray) (e n : Int) (hs : s.size < 64) (w : World) :
    Calls Tryz.prog 92 #[.string s, .int .i64 e, .int .i64 n] w (Refused 20 0 (fun v => .tuple #[.string ⟨#[]⟩, .int .i64 0, v]) w) := by
  go_enter Tryz.func92, Tryz.ntmps92
  go_wp2_with (go_at_call 106; refine (fault_is 20 0 _).mono ?_; rintro r w' ⟨g, hg, rfl, hf, hb2⟩; have HF := Lib.hid hf; have HB := Lib.hid hb2; clear hf hb2)
  go_ret3
  exact ⟨g, hg, rfl, HF.out, HB.out⟩
/-- A text with which no record begins. -/
def NoRec (l : List UInt8) : Prop := l.length < 64 ∨ l.getD 0 0 ≠ 1
theorem Unpack_none (s : ByteArray) (e n : Int) (h : NoRec s.data.toList) (w : World) :
    Calls Tryz.prog 92 #[.string s, .int .i64 e, .int .i64 n] w (Refused 20 0 (fun v => .tuple #[.string ⟨#[]⟩, .int .i64 0, v]) w) := by
  by_cases hs : s.size < 64
  · exact Unpack_short s e n hs w
  · rcases h with h | h
    · rw [size_toList] at h; omega
    · exact Unpack_mark s e n (by omega) (by rw [strAt_eq]; exact h) w
theorem num_lt7 (l : List UInt8) (j : Nat) (h : j ≤ 7) : Fr.num (l.take j) < 72057594037927936 := by
  have := Fr.num_lt (l.take j)
  have h2 : (l.take j).length ≤ 7 := by rw [List.length_take]; omega
  have h3 : 256 ^ (l.take j).length ≤ 256 ^ 7 := Nat.pow_le_pow_right (by decide) h2
  have h4 : (256 : Nat) ^ 7 = 72057594037927936 := by decide
  omega
theorem num_lt8 (l : List UInt8) (j : Nat) (h : j ≤ 8) : Fr.num (l.take j) < 18446744073709551616 := by
  have := Fr.num_lt (l.take j)
  have h2 : (l.take j).length ≤ 8 := by rw [List.length_take]; omega
  have h3 : 256 ^ (l.take j).length ≤ 256 ^ 8 := Nat.pow_le_pow_right (by decide) h2
  have h4 : (256 : Nat) ^ 8 = 18446744073709551616 := by decide
  omega
theorem IsRec.epoch {s : ByteArray} {e n : Nat} {p : List UInt8} (h : IsRec s e n p) (he : e < 18446744073709551616) : Fr.num ((s.data.toList.drop 12).take 8) = e := by
  have h1 := h.head
  rw [extract_list] at h1
  have e1 : (s.data.toList.drop 12).take 8 = ((s.data.toList.take 20).drop 4).drop 8 := by
    rw [List.drop_drop, List.drop_take]
  rw [e1, h1, ← Fr.headOf_eq, List.drop_left' (by simp [Fr.length_be])]
  exact Fr.num_be_lt he
/-- What epochOf answers. -/
def EpochIs (s : ByteArray) (R : Nat) : Prop := (NoRec s.data.toList ∧ R = 0) ∨ (IsRec s R 0 title ∧ 1 ≤ R ∧ R ≤ 4611686018427387904)
attribute [local go_sem high] run_index_byte
set_option maxRecDepth 100000 in
set_option maxHeartbeats 2000000 in
theorem epochOf_is (s : ByteArray) (R : Nat) (hs : s.size = 64) (h : EpochIs s R) (w : World) :
    Calls Tryz.prog 77 #[.string s] w fun e w' => e = .returned (.int .i64 R) ∧ Below w.heap.size w w' := by
  have H := Lib.hid h
  have HLD := Lib.hid (show (s.data.toList.drop 12).length = 52 by rw [List.length_drop, size_toList, hs])
  clear h
  go_enter Tryz.func77, Tryz.ntmps77
  go_wp2_with fail
  go_loopw [3, 8] (fun r i wr => ∃ j : Nat, j ≤ 8 ∧ i = .int .i64 j ∧ r = .int .u64 (Fr.num ((s.data.toList.drop 12).take j)) ∧ wr = w) (fun _ i _ => 8 - (intOf i).toNat)
  case atStart => exact ⟨0, by omega, rfl, by rw [List.take_zero, Fr.num_nil]; rfl, rfl⟩
  case round =>
    obtain ⟨j, hj, rfl, rfl, rfl⟩ := hrel
    by_cases hlt : j < 8
    · obtain ⟨N, hN⟩ : ∃ N, N = Fr.num ((s.data.toList.drop 12).take j) := ⟨_, rfl⟩
      rw [← hN]
      go_wp2_with fail
      go_roundw
      case rel => exact ⟨j + 1, by omega, by go_num, (by
        rw [or_shift _ _ (by have := num_lt7 (s.data.toList.drop 12) j (by omega); omega), List.take_succ_eq_append_getElem (by rw [HLD.out]; omega), Fr.num_snoc, List.getElem_drop, hN]; rfl), trivial⟩
      case measure => simp [intOf]; omega
    · obtain rfl : j = 8 := by omega
      have hN8 := num_lt8 (s.data.toList.drop 12) 8 (Nat.le_refl _)
      rcases H.out with ⟨h, rfl⟩ | ⟨h, h1, h2⟩
      · obtain ⟨N, hN⟩ : ∃ N, N = Fr.num ((s.data.toList.drop 12).take 8) := ⟨_, rfl⟩
        rw [← hN] at hN8 ⊢
        have CU := Lib.hid (fun (e : Int) (v : World) => Unpack_none s e 0 h v)
        clear h hN
        by_cases hbig : N ≤ 4611686018427387904
        · go_wp2_with (first | (go_at_call 92; refine (CU.out _ _).mono ?_; rintro r w2 ⟨g, hg, rfl, hf, hb⟩; have HFA := Lib.hid hf; have HB := Lib.hid hb; clear hf hb) | (go_at_call 49; refine (errorsIs_true g 20 0 _ HFA.out).mono ?_; rintro r w' ⟨rfl, rfl⟩) | fail)
          go_ret
          exact ⟨rfl, HB.out⟩
        · go_wp2_with fail
          go_ret
          exact ⟨rfl, Below.refl _ _⟩
      · rw [h.epoch (by omega)] at hN8 ⊢
        have CU := Lib.hid (fun (v : World) => show Calls Tryz.prog 92 #[.string s, .int .i64 R, .int .i64 0] v _ from Unpack_rec s R 0 title h2 (by omega) h v)
        rw [title_bs] at CU
        clear h
        go_wp2_with (first | (go_at_call 92; refine (CU.out _).mono ?_; rintro r w2 ⟨rfl, hb⟩; have HB := Lib.hid hb; clear hb) | (go_at_call 49; refine (errorsIs_nil _ _).mono ?_; rintro r w' ⟨rfl, rfl⟩) | fail)
        go_ret
        exact ⟨rfl, HB.out⟩
/-- The records of an epoch from a number on, one behind the other. -/
def packs (e n : Nat) : List (List UInt8) → List UInt8
  | [] => []
  | p :: ps => Fr.record e n p ++ packs e (n + 1) ps
theorem packs_nil (e n : Nat) : packs e n [] = [] := rfl
theorem packs_cons (e n : Nat) (p : List UInt8) (ps : List (List UInt8)) : packs e n (p :: ps) = Fr.record e n p ++ packs e (n + 1) ps := rfl
theorem packs_append (e n : Nat) (a b : List (List UInt8)) : packs e n (a ++ b) = packs e n a ++ packs e (n + a.length) b := by
  induction a generalizing n with
  | nil => rfl
  | cons p a ih => rw [List.cons_append, packs_cons, packs_cons, ih, List.append_assoc, List.length_cons, Nat.add_assoc, Nat.add_comm 1]
theorem packs_snoc (e n : Nat) (a : List (List UInt8)) (p : List UInt8) : packs e n (a ++ [p]) = packs e n a ++ Fr.record e (n + a.length) p := by
  rw [packs_append, packs_cons, packs_nil, List.append_nil]
/-- How many sectors a payload's record has, and all of some have. -/
def secs (p : List UInt8) : Nat := (p.length + 87) / 64
theorem whole_secs (p : List UInt8) : Fr.whole p.length = 64 * secs p := by unfold Fr.whole secs; omega
def secsAll (ps : List (List UInt8)) : Nat := (ps.map secs).sum
theorem secsAll_nil : secsAll [] = 0 := rfl
theorem secsAll_cons (p : List UInt8) (ps : List (List UInt8)) : secsAll (p :: ps) = secs p + secsAll ps := rfl
theorem secsAll_append (a b : List (List UInt8)) : secsAll (a ++ b) = secsAll a + secsAll b := by simp [secsAll]
theorem secsAll_snoc (a : List (List UInt8)) (p : List UInt8) : secsAll (a ++ [p]) = secsAll a + secs p := by rw [secsAll_append]; simp [secsAll]
theorem length_packs (e n : Nat) (ps : List (List UInt8)) : (packs e n ps).length = 64 * secsAll ps := by
  induction ps generalizing n with
  | nil => rfl
  | cons p ps ih => rw [packs_cons, List.length_append, Fr.length_record, ih, secsAll_cons, whole_secs]; omega
theorem secs_pos (p : List UInt8) : 1 ≤ secs p := by unfold secs; omega
theorem length_le_secsAll (ps : List (List UInt8)) : ps.length ≤ secsAll ps := by
  induction ps with
  | nil => exact Nat.le_refl _
  | cons p ps ih => have := secs_pos p; rw [secsAll_cons, List.length_cons]; omega
theorem take_packs {e n k : Nat} {ps : List (List UInt8)} (h : k < ps.length) : packs e n (ps.take (k + 1)) = packs e n (ps.take k) ++ Fr.record e (n + k) (ps.getD k []) := by
  rw [List.take_succ_eq_append_getElem h, packs_snoc, List.length_take, Nat.min_eq_left (by omega), List.getD, List.getElem?_eq_getElem h]; rfl
theorem split_packs {e n k : Nat} {ps : List (List UInt8)} (h : k < ps.length) : packs e n ps = packs e n (ps.take k) ++ (Fr.record e (n + k) (ps.getD k []) ++ packs e (n + k + 1) (ps.drop (k + 1))) := by
  conv => lhs; rw [← List.take_append_drop k ps, List.drop_eq_getElem_cons h]
  rw [packs_append, packs_cons, List.length_take, Nat.min_eq_left (by omega), List.getD, List.getElem?_eq_getElem h]; rfl
attribute [irreducible] secs secsAll
def strv (l : List UInt8) : Value := .string (bs l)
theorem infoString : (Tryz.prog.info? 9).map (fun i => (i.zero, i.size, i.bytes)) = some (some (.string ⟨#[]⟩), 1, 16) := by kernel_rfl
theorem own_below {w w' : World} {B n size : Nat} {e : TypeId} {v : Value} {xs : List Value} (h : w.ownsRow B e size v n xs) (hb : Below w.heap.size w w') : w'.ownsRow B e size v n xs :=
  own_keep h (fun g hg => hb.block g (h.lt g hg).2)
theorem own_slice {w : World} {B n size : Nat} {e : TypeId} {v : Value} {xs : List Value} (h : w.ownsRow B e size v n xs) : ∃ b cap, v = .slice b n cap := by
  rcases h.2 with ⟨hv, h0⟩ | ⟨g, cap, cur, hv, _⟩
  · exact ⟨none, 0, by rw [hv, h0]⟩
  · exact ⟨_, cap, hv⟩
theorem secsAll_take {ps : List (List UInt8)} (k : Nat) : secsAll (ps.take k) ≤ secsAll ps := by
  conv => rhs; rw [← List.take_append_drop k ps, secsAll_append]
  omega
theorem secsAll_take_succ {ps : List (List UInt8)} {k : Nat} (h : k < ps.length) : secsAll (ps.take (k + 1)) = secsAll (ps.take k) + secs (ps.getD k []) := by
  rw [List.take_succ_eq_append_getElem h, secsAll_snoc, List.getD, List.getElem?_eq_getElem h]; rfl
theorem run_fromN {s q : ByteArray} {i : Nat} (hi : i ≤ s.size) (hq : s.extract i s.size = q) (w : World) : (Instr.slice 9 (.string s) (some (.int .i64 (i : Int))) none none).run Tryz.prog w = .ok (.string q) w := by
  rw [run_rest_string w 9 s .i64 i Tryz.underlying9 hi, hq]
set_option maxRecDepth 100000 in
set_option maxHeartbeats 2000000 in
theorem recordsOf_is (e : Nat) (ps : List (List UInt8)) (behind : List UInt8) (he : e ≤ 4611686018427387904) (hps : ∀ p ∈ ps, p.length ≤ 60000) (hb : NoRec behind) (hlen : 64 * secsAll ps + behind.length ≤ 1000000) (w : World) :
    Calls Tryz.prog 79 #[.string (bs (packs e 1 ps ++ behind)), .int .i64 e] w fun r w' => ∃ v, r = .returned (.tuple #[v, .int .i64 (secsAll ps)]) ∧ w'.ownsRow w.heap.size 9 1 v ps.length (ps.map strv) ∧ Below w.heap.size w w' := by
  obtain ⟨i0, hi, hz0, hz1, hz2⟩ := info_parts infoString
  obtain ⟨s, hs⟩ : ∃ s, s = bs (packs e 1 ps ++ behind) := ⟨_, rfl⟩
  have hsz : s.size = 64 * secsAll ps + behind.length := by rw [hs, bs_size, List.length_append, length_packs]
  have hll := length_le_secsAll ps
  rw [← hs]
  have HS := Lib.hid hs
  have HP := Lib.hid hps
  have HN := Lib.hid hb
  clear hs hps hb
  go_enter Tryz.func79, Tryz.ntmps79
  go_wp2_with fail
  go_loopw [6, 7] (fun v av wr => ∃ k : Nat, k ≤ ps.length ∧ av = .int .i64 (64 * secsAll (ps.take k) : Nat) ∧ wr.ownsRow w.heap.size 9 1 v k ((ps.take k).map strv) ∧ Below w.heap.size w wr) (fun _ av _ => s.size + 1 - (intOf av).toNat)
  case atStart => exact ⟨0, by omega, by simp [secsAll], by simpa using World.ownsRow_nil _ _ _ _, Below.refl _ _⟩
  case round =>
    obtain ⟨k, hk, rfl, hown, hB⟩ := hrel
    obtain ⟨b0, cap0, rfl⟩ := own_slice hown
    have hM := secsAll_take (ps := ps) k
    obtain ⟨M, hMe⟩ : ∃ M, M = secsAll (ps.take k) := ⟨_, rfl⟩
    rw [← hMe] at hM
    rw [← hMe]
    obtain ⟨A, hA⟩ : ∃ A, A = 64 * M := ⟨_, rfl⟩
    rw [← hA]
    have hAs : A ≤ s.size := by omega
    obtain ⟨q, hq⟩ : ∃ q, q = s.extract A s.size := ⟨_, rfl⟩
    have hmid : ∀ v : World, (Instr.slice 9 (.string s) (some (.int .i64 (A : Int))) none none).run Tryz.prog v = .ok (.string q) v := run_fromN hAs hq.symm
    have hql : q.data.toList = packs e (1 + k) (ps.drop k) ++ behind := by
      have e1 : packs e 1 ps = packs e 1 (ps.take k) ++ packs e (1 + k) (ps.drop k) := by
        conv => lhs; rw [← List.take_append_drop k ps, packs_append, List.length_take, Nat.min_eq_left hk]
      rw [hq, extract_from, HS.out, bs_list, e1, List.append_assoc, List.drop_left' (by rw [length_packs, ← hMe, hA])]
    have hqs : q.size ≤ 1000000 := by rw [hq, ByteArray.size_extract]; omega
    by_cases hlt : k < ps.length
    · obtain ⟨x, hx⟩ : ∃ x, x = ps.getD k [] := ⟨_, rfl⟩
      have hxm : x.length ≤ 60000 := by
        apply HP.out x; rw [hx, List.getD, List.getElem?_eq_getElem hlt]; exact List.getElem_mem _
      have hdr : ps.drop k = x :: ps.drop (k + 1) := by rw [List.drop_eq_getElem_cons hlt, hx, List.getD, List.getElem?_eq_getElem hlt]; rfl
      have hrec : IsRec q e (k + 1) x := isRec e (k + 1) x (packs e (1 + k + 1) (ps.drop (k + 1)) ++ behind) hxm q (by rw [hql, hdr, packs_cons, List.append_assoc, Nat.add_comm 1 k]) (by omega)
      have hsu := secsAll_take_succ hlt
      rw [← hx, ← hMe] at hsu
      have hle := secsAll_take (ps := ps) (k + 1)
      have htk : (ps.take (k + 1)).map strv = (ps.take k).map strv ++ [.string (bs x)] := by
        rw [List.take_succ_eq_append_getElem hlt, List.map_append, hx, List.getD, List.getElem?_eq_getElem hlt]; rfl
      obtain ⟨m, hm⟩ : ∃ m, m = secs x := ⟨_, rfl⟩
      have hll2 := length_le_secsAll ps
      have hm1 : 1 ≤ m := by rw [hm]; exact secs_pos x
      have CU := Lib.hid (fun (v : World) => Unpack_rec q e (k + 1) x he (by omega) hrec v)
      rw [whole_secs x, ← hm] at CU
      have ek : ((k : Int) + 1) = ((k + 1 : Nat) : Int) := by omega
      have EK := Lib.hid ek
      have HSU := Lib.hid hsu
      have HTK := Lib.hid htk
      have HM := Lib.hid hm
      have hsz2 := hB.size
      have hAm : A + 64 * m ≤ 1000000 := by rw [hsu] at hle; rw [← hm] at hle; omega
      have HO := Lib.hid hown
      have HB := Lib.hid hB
      have HAE := Lib.hid hA
      have HME := Lib.hid hMe
      clear hown hB hq hql hdr hrec hsu htk hx hm ek hA hMe hM hle
      go_wp2_with (first | (go_at_call 92; rw [EK.out]; refine (CU.out _).mono ?_; rintro r w2 ⟨rfl, hb⟩; have HO2 := Lib.hid (own_below HO.out hb); have HB2 := Lib.hid (HB.out.trans (hb.mono HB.out.size)); clear hb; have hsz5 := HB2.out.size) | (go_at_call 49; refine (errorsIs_nil _ _).mono ?_; rintro r w' ⟨rfl, rfl⟩) | (refine wpList_append_own _ rfl (.tmp 29) (.tmp 31) 31 rfl w.heap.size 9 i0 (.string ⟨#[]⟩) 1 16 Tryz.underlying31 hi hz0 hz1 hz2 rfl (by decide) _ k _ rfl (HO2.out.alloc _) ⟨w2.heap.size, 0, none⟩ 1 1 [.string (bs x)] rfl rfl (news_row (heap_alloc_new _ _)) (by intro u hu; simp only [List.mem_singleton] at hu; rw [hu]; rfl) (by unfold maxLen; omega) (by omega) (by simp; omega) ?_; intro v7 w7 h7 hg7 _; have H7 := Lib.hid h7; have B7 := Lib.hid ((HB2.out.alloc (by omega) _).grown hg7 (by simp; omega) (fun k hk => (HO2.out.lt k hk).1)); clear h7 hg7; go_frame) | fail)
      go_roundw
      case rel =>
        refine ⟨k + 1, by omega, ?_, by rw [HTK.out]; exact H7.out, B7.out⟩
        rw [HSU.out, ← HM.out]; have := HAE.out; congr 1; omega
      case measure => have := HAE.out; simp [intOf]; omega
    · have hkl : k = ps.length := by omega
      have hnr : NoRec q.data.toList := by rw [hql, hkl, List.drop_length, packs_nil, List.nil_append]; exact HN.out
      have hMa : M = secsAll ps := by rw [hMe, hkl, List.take_length]
      have CU := Lib.hid (fun (n : Int) (v : World) => Unpack_none q e n hnr v)
      have q64 : (A : Int) / 64 = (M : Int) := by omega
      have HO := Lib.hid hown
      have HB := Lib.hid hB
      have HMA := Lib.hid hMa
      have HKL := Lib.hid hkl
      clear hown hB hq hql hnr hMa hMe hA hkl
      go_wp2_with (first | (go_at_call 92; refine (CU.out _ _).mono ?_; rintro r w2 ⟨g, hg, rfl, hf, hb⟩; have HFA := Lib.hid hf; have HO2 := Lib.hid (own_below HO.out hb); have HB2 := Lib.hid (HB.out.trans (hb.mono HB.out.size)); clear hf hb) | (go_at_call 49; refine (errorsIs_true g 20 0 _ HFA.out).mono ?_; rintro r w' ⟨rfl, rfl⟩) | fail)
      go_ret2
      refine ⟨.slice b0 k cap0, by rw [← HMA.out]; rfl, ?_, HB2.out⟩
      have := HO2.out
      rw [HKL.out, List.take_length] at this
      rw [HKL.out]
      exact this
end Go.Proofs.YtbljhodnpddpiaaGreatDoor
