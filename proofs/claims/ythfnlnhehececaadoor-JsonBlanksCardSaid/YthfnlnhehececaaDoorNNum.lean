/- The program measures a number. -/
import Derived.Test.YthfnlnhehececaaDoorNRd2
namespace Go.Proofs.YthfnlnhehececaaDoor
open Go.RowKit

theorem inO_is (x : UInt8) (o : Option UInt8) : inO [x] o = decide (o = some x) := by
  cases o with
  | none => rfl
  | some c =>
    rw [inO_one, Bool.eq_iff_iff, beq_iff_eq, decide_eq_true_eq, Option.some.injEq]
theorem inO_dg : ∀ n < 256, inO [48, 49, 50, 51, 52, 53, 54, 55, 56, 57] (some (UInt8.ofNat n)) = Js.isDg (UInt8.ofNat n) := by decide +kernel
theorem inO_isDg (c : UInt8) : inO [48, 49, 50, 51, 52, 53, 54, 55, 56, 57] (some c) = Js.isDg c := by
  have := inO_dg c.toNat c.toNat_lt
  rwa [UInt8.ofNat_toNat] at this
theorem inO_e : ∀ n < 256, inO [101, 69] (some (UInt8.ofNat n)) = Js.isE (some (UInt8.ofNat n)) := by decide +kernel
theorem inO_isE (o : Option UInt8) : inO [101, 69] o = Js.isE o := by
  cases o with
  | none => rfl
  | some c =>
    have := inO_e c.toNat c.toNat_lt
    rwa [UInt8.ofNat_toNat] at this
theorem inO_pm : ∀ n < 256, inO [43, 45] (some (UInt8.ofNat n)) = Js.isPm (some (UInt8.ofNat n)) := by decide +kernel
theorem inO_isPm (o : Option UInt8) : inO [43, 45] o = Js.isPm o := by
  cases o with
  | none => rfl
  | some c =>
    have := inO_pm c.toNat c.toNat_lt
    rwa [UInt8.ofNat_toNat] at this
theorem here_drop (L : List UInt8) (a : Nat) (h : a ≤ L.length) : Here L a (L.drop a) := ⟨rfl, by rw [List.length_drop]; omega⟩
/-- What the measurers hand back. -/
def nszV (x : Nat × Bool) : Value := .tuple #[.int .i64 (x.1 : Int), .bool x.2]
set_option maxHeartbeats 2000000 in
theorem behindDigits_any (L : List UInt8) (hL : L.length ≤ 140737488355328) (a : Nat) (ha : a ≤ L.length) (w : World) :
    Calls Tryd.prog 91 #[.string (bs L), .int .i64 (a : Int)] w fun e w' => e = .returned (nszV (Js.bDig L a)) ∧ w' = w := by
  have HA := Lib.hid (fun q m (v : World) (hm : Here L q m) => isAt_any ⟨#[48, 49, 50, 51, 52, 53, 54, 55, 56, 57]⟩ L m q v hm)
  obtain ⟨R, hR⟩ : ∃ R, R = Js.bDig L a := ⟨_, rfl⟩
  rw [← hR]
  have HR := Lib.hid hR
  clear hR
  obtain ⟨N, hN⟩ : ∃ N, N = L.length := ⟨_, rfl⟩
  have HN := Lib.hid hN
  rw [← hN] at hL ha
  clear hN
  generalize hs : bs L = s at *
  clear hs
  go_enter Tryd.func91, Tryd.ntmps91
  go_wp2_with fail
  go_loopw [6] (fun iv wr => ∃ j : Nat, a ≤ j ∧ j ≤ N ∧ iv = .int .i64 j ∧ Hid (R = (j + Js.dgs (L.drop j), decide (0 < j - a + Js.dgs (L.drop j)))) ∧ wr = w) (fun iv _ => N - (intOf iv).toNat)
  case atStart => exact ⟨a, Nat.le_refl _, ha, rfl, Lib.hid (by rw [HR.out, Js.bDig, Nat.sub_self, Nat.zero_add]), rfl⟩
  case round =>
    obtain ⟨j, haj, hj, rfl, hr, rfl⟩ := hrel
    have C := HA.out j (L.drop j)
    cases hd : L.drop j with
    | nil =>
      rw [hd] at C hr
      have C := Lib.hid (fun v => C v ⟨hd, by have := congrArg List.length hd; rw [List.length_drop] at this; simp at this ⊢; rw [← HN.out] at this ⊢; omega⟩)
      rw [show inO (⟨#[48, 49, 50, 51, 52, 53, 54, 55, 56, 57]⟩ : ByteArray).data.toList ([] : List UInt8).head? = false from rfl] at C
      have hr2 := hr.out
      rw [Js.dgs, Nat.add_zero, Nat.add_zero] at hr2
      have HR2 := Lib.hid hr2
      clear hr2 hr hd
      go_wp2_with (first | (go_at_call 58; refine (C.out _).mono ?_; rintro e w1 ⟨rfl, hw⟩; obtain rfl := hw.symm; clear hw))
      go_ret2
      refine ⟨?_, rfl⟩
      rw [HR2.out, nszV]
      have e : decide (a < j) = decide (0 < j - a) := by rw [decide_eq_decide]; omega
      simp [e]
    | cons c r =>
      rw [hd] at C hr
      have hjl : j + (c :: r).length = L.length := by have := congrArg List.length hd; rw [List.length_drop] at this; rw [← this, ← HN.out]; omega
      have C := Lib.hid (fun v => C v ⟨hd, hjl⟩)
      have e : inO (⟨#[48, 49, 50, 51, 52, 53, 54, 55, 56, 57]⟩ : ByteArray).data.toList (c :: r).head? = Js.isDg c := inO_isDg c
      rw [e] at C
      clear e
      have hr2 := hr.out
      have hd2 : L.drop (j + 1) = r := by rw [← List.drop_drop, hd]; rfl
      rw [Js.dgs] at hr2
      rw [← HN.out, List.length_cons] at hjl
      cases hc : Js.isDg c with
      | true =>
        rw [hc] at C hr2
        simp only [if_true] at hr2
        have HR2 := Lib.hid (show R = (j + 1 + Js.dgs (L.drop (j + 1)), decide (0 < j + 1 - a + Js.dgs (L.drop (j + 1)))) by
          rw [hr2, hd2, show j + (Js.dgs r + 1) = j + 1 + Js.dgs r by omega, show j - a + (Js.dgs r + 1) = j + 1 - a + Js.dgs r by omega])
        clear hr2 hr hd hd2 hc
        go_wp2_with (first | (go_at_call 58; refine (C.out _).mono ?_; rintro e w1 ⟨rfl, hw⟩; obtain rfl := hw.symm; clear hw))
        go_roundw
        case rel => exact ⟨j + 1, by omega, by omega, by go_num, HR2, trivial⟩
        case measure => simp [intOf]; omega
      | false =>
        rw [hc] at C hr2
        simp only [Bool.false_eq_true, if_false, Nat.add_zero] at hr2
        have HR2 := Lib.hid hr2
        clear hr2 hr hd hd2 hc
        go_wp2_with (first | (go_at_call 58; refine (C.out _).mono ?_; rintro e w1 ⟨rfl, hw⟩; obtain rfl := hw.symm; clear hw))
        go_ret2
        refine ⟨?_, rfl⟩
        rw [HR2.out, nszV]
        have e : decide (a < j) = decide (0 < j - a) := by rw [decide_eq_decide]; omega
        simp [e]
theorem isAt_i (t : ByteArray) (L : List UInt8) (a : Nat) (i : Int) (hi : i = (a : Int)) (h : a ≤ L.length) (o : Bool) (ho : inO t.data.toList (L.drop a).head? = o) (w : World) :
    Calls Tryd.prog 58 #[.string t, .string (bs L), .int .i64 i] w fun e w' => e = .returned (.bool o) ∧ w' = w := by
  subst hi ho
  exact isAt_any t L (L.drop a) a w (here_drop L a h)
theorem behindDigits_i (L : List UInt8) (hL : L.length ≤ 140737488355328) (a : Nat) (i : Int) (hi : i = (a : Int)) (ha : a ≤ L.length) (w : World) :
    Calls Tryd.prog 91 #[.string (bs L), .int .i64 i] w fun e w' => e = .returned (nszV (Js.bDig L a)) ∧ w' = w := by
  subst hi
  exact behindDigits_any L hL a ha w
theorem ret_nsz {a : Int} {x : Nat × Bool} {p : Bool} (h1 : a = x.1) (h2 : p = x.2) : Ending.returned (.tuple #[.int .i64 a, .bool p]) = .returned (nszV x) := by rw [h1, h2, nszV]
set_option maxHeartbeats 2000000 in
theorem behindInteger_any (L : List UInt8) (hL : L.length ≤ 140737488355328) (w : World) :
    Calls Tryd.prog 90 #[.string (bs L)] w fun e w' => e = .returned (nszV (Js.bInt L)) ∧ w' = w := by
  unfold Js.bInt
  dsimp only
  by_cases h1 : L.head? = some 45
  · have hl : 1 ≤ L.length := by cases L with
      | nil => cases h1
      | cons c r => simp
    have I1 := Lib.hid (fun v => isAt_i ⟨#[45]⟩ L 0 0 rfl (by omega) true (by rw [show (⟨#[45]⟩ : ByteArray).data.toList = [45] from rfl, inO_is, List.drop_zero]; simp [h1]) v)
    rw [if_pos h1]
    by_cases h2 : (L.drop 1).head? = some 48
    · rw [if_pos h2]
      have I2 := Lib.hid (fun v => isAt_i ⟨#[48]⟩ L 1 1 rfl hl true (by rw [show (⟨#[48]⟩ : ByteArray).data.toList = [48] from rfl, inO_is]; exact decide_eq_true h2) v)
      clear h1 h2
      generalize bs L = s at *
      go_enter Tryd.func90, Tryd.ntmps90
      go_wp2_with (first | (go_at_call 58; first | ((with_reducible refine (I1.out _).mono ?_); rintro e w1 ⟨rfl, hw⟩; obtain rfl := hw.symm; clear hw) | ((with_reducible refine (I2.out _).mono ?_); rintro e w1 ⟨rfl, hw⟩; obtain rfl := hw.symm; clear hw)))
      go_ret2
      exact ⟨ret_nsz rfl rfl, rfl⟩
    · rw [if_neg h2]
      have I2 := Lib.hid (fun v => isAt_i ⟨#[48]⟩ L 1 1 rfl hl false (by rw [show (⟨#[48]⟩ : ByteArray).data.toList = [48] from rfl, inO_is]; exact decide_eq_false h2) v)
      have BD := Lib.hid (fun v => behindDigits_i L hL 1 1 rfl hl v)
      clear h1 h2
      generalize Js.bDig L 1 = x at *
      generalize bs L = s at *
      go_enter Tryd.func90, Tryd.ntmps90
      go_wp2_with (first | (go_at_call 58; first | ((with_reducible refine (I1.out _).mono ?_); rintro e w1 ⟨rfl, hw⟩; obtain rfl := hw.symm; clear hw) | ((with_reducible refine (I2.out _).mono ?_); rintro e w1 ⟨rfl, hw⟩; obtain rfl := hw.symm; clear hw)) | (go_at_call 91; refine (BD.out _).mono ?_; rintro e w1 ⟨he, hw⟩; unfold nszV at he; subst he; obtain rfl := hw.symm; clear hw))
      go_ret2
      exact ⟨ret_nsz rfl rfl, rfl⟩
  · have I1 := Lib.hid (fun v => isAt_i ⟨#[45]⟩ L 0 0 rfl (by omega) false (by rw [show (⟨#[45]⟩ : ByteArray).data.toList = [45] from rfl, inO_is, List.drop_zero]; simp [h1]) v)
    rw [if_neg h1]
    by_cases h2 : (L.drop 0).head? = some 48
    · rw [if_pos h2]
      have I2 := Lib.hid (fun v => isAt_i ⟨#[48]⟩ L 0 0 rfl (by omega) true (by rw [show (⟨#[48]⟩ : ByteArray).data.toList = [48] from rfl, inO_is]; exact decide_eq_true h2) v)
      clear h1 h2
      generalize bs L = s at *
      go_enter Tryd.func90, Tryd.ntmps90
      go_wp2_with (first | (go_at_call 58; first | ((with_reducible refine (I1.out _).mono ?_); rintro e w1 ⟨rfl, hw⟩; obtain rfl := hw.symm; clear hw) | ((with_reducible refine (I2.out _).mono ?_); rintro e w1 ⟨rfl, hw⟩; obtain rfl := hw.symm; clear hw)))
      go_ret2
      exact ⟨ret_nsz rfl rfl, rfl⟩
    · rw [if_neg h2]
      have I2 := Lib.hid (fun v => isAt_i ⟨#[48]⟩ L 0 0 rfl (by omega) false (by rw [show (⟨#[48]⟩ : ByteArray).data.toList = [48] from rfl, inO_is]; exact decide_eq_false h2) v)
      have BD := Lib.hid (fun v => behindDigits_i L hL 0 0 rfl (by omega) v)
      clear h1 h2
      generalize Js.bDig L 0 = x at *
      generalize bs L = s at *
      go_enter Tryd.func90, Tryd.ntmps90
      go_wp2_with (first | (go_at_call 58; first | ((with_reducible refine (I1.out _).mono ?_); rintro e w1 ⟨rfl, hw⟩; obtain rfl := hw.symm; clear hw) | ((with_reducible refine (I2.out _).mono ?_); rintro e w1 ⟨rfl, hw⟩; obtain rfl := hw.symm; clear hw)) | (go_at_call 91; refine (BD.out _).mono ?_; rintro e w1 ⟨he, hw⟩; unfold nszV at he; subst he; obtain rfl := hw.symm; clear hw))
      go_ret2
      exact ⟨ret_nsz rfl rfl, rfl⟩
theorem bFrac_off (L : List UInt8) (e : Nat) : Js.bFrac L (e, false) = (e, false) := by unfold Js.bFrac; rw [if_neg (by simp)]
theorem bFrac_no (L : List UInt8) (e : Nat) (h : ¬ (L.drop e).head? = some 46) : Js.bFrac L (e, true) = (e, true) := by unfold Js.bFrac; rw [if_neg (by simp only [true_and]; exact h)]
theorem bFrac_yes (L : List UInt8) (e : Nat) (h : (L.drop e).head? = some 46) : Js.bFrac L (e, true) = Js.bDig L (e + 1) := by unfold Js.bFrac; rw [if_pos ⟨rfl, h⟩]
theorem bExp_off (L : List UInt8) (e : Nat) : Js.bExp L (e, false) = (e, false) := by unfold Js.bExp; rw [if_neg (by simp)]
theorem bExp_no (L : List UInt8) (e : Nat) (h : Js.isE (L.drop e).head? = false) : Js.bExp L (e, true) = (e, true) := by unfold Js.bExp; rw [if_neg (by simp only [true_and]; rw [h]; decide)]
theorem bExp_pm (L : List UInt8) (e : Nat) (h : Js.isE (L.drop e).head? = true) (k : Js.isPm (L.drop (e + 1)).head? = true) : Js.bExp L (e, true) = Js.bDig L (e + 2) := by unfold Js.bExp; rw [if_pos ⟨rfl, h⟩]; dsimp only; rw [if_pos k]
theorem bExp_yes (L : List UInt8) (e : Nat) (h : Js.isE (L.drop e).head? = true) (k : Js.isPm (L.drop (e + 1)).head? = false) : Js.bExp L (e, true) = Js.bDig L (e + 1) := by unfold Js.bExp; rw [if_pos ⟨rfl, h⟩]; dsimp only; rw [if_neg (by rw [k]; decide)]
set_option maxHeartbeats 4000000 in
theorem numberSize_any (L : List UInt8) (hL : L.length ≤ 140737488355328) (w : World) :
    Calls Tryd.prog 75 #[.string (bs L)] w fun e w' => e = .returned (nszV (Js.nsz L)) ∧ w' = w := by
  have BI := fun v => behindInteger_any L hL v
  have hle := (Js.bInt_le L).1
  unfold Js.nsz
  generalize Js.bInt L = x at *
  obtain ⟨e1, o1⟩ := x
  dsimp only at hle
  have BI := Lib.hid BI
  cases o1 with
  | false =>
    rw [bFrac_off, bExp_off]
    clear hle
    generalize bs L = s at *
    go_enter Tryd.func75, Tryd.ntmps75
    go_wp2_with (first | (go_at_call 90; refine (BI.out _).mono ?_; rintro e w1 ⟨he, hw⟩; unfold nszV at he; subst he; obtain rfl := hw.symm; clear hw))
    go_ret2
    exact ⟨ret_nsz rfl rfl, rfl⟩
  | true =>
    by_cases h46 : (L.drop e1).head? = some 46
    · have hl46 := Js.head_len h46
      have ID := Lib.hid (fun v => isAt_i ⟨#[46]⟩ L (e1) ((e1 : Int)) (rfl) (hle) true (by rw [show (⟨#[46]⟩ : ByteArray).data.toList = [46] from rfl, inO_is]; exact decide_eq_true h46) v)
      rw [bFrac_yes L e1 h46]
      have BF := Lib.hid (fun v => behindDigits_i L hL (e1 + 1) ((e1 : Int) + 1) (by omega) (hl46) v)
      have hle2 := (Js.bDig_le L (e1 + 1) hl46).1
      generalize Js.bDig L (e1 + 1) = y at *
      obtain ⟨e2, o2⟩ := y
      dsimp only at hle2
      cases o2 with
      | false =>
        rw [bExp_off]
        clear h46
        generalize bs L = s at *
        go_enter Tryd.func75, Tryd.ntmps75
        go_wp2_with (first | (go_at_call 90; refine (BI.out _).mono ?_; rintro e w1 ⟨he, hw⟩; unfold nszV at he; subst he; obtain rfl := hw.symm; clear hw) | (go_at_call 58; first | ((with_reducible refine (ID.out _).mono ?_); rintro e w1 ⟨rfl, hw⟩; obtain rfl := hw.symm; clear hw)) | (go_at_call 91; first | ((with_reducible refine (BF.out _).mono ?_); rintro e w1 ⟨he, hw⟩; unfold nszV at he; subst he; obtain rfl := hw.symm; clear hw)))
        go_ret2
        exact ⟨ret_nsz rfl rfl, rfl⟩
      | true =>
        cases hE : Js.isE (L.drop e2).head? with
        | false =>
          rw [bExp_no L e2 hE]
          have IE := Lib.hid (fun v => isAt_i ⟨#[101, 69]⟩ L (e2) ((e2 : Int)) (rfl) (hle2) false (by rw [show (⟨#[101, 69]⟩ : ByteArray).data.toList = [101, 69] from rfl, inO_isE]; exact hE) v)
          clear h46 hE
          generalize bs L = s at *
          go_enter Tryd.func75, Tryd.ntmps75
          go_wp2_with (first | (go_at_call 90; refine (BI.out _).mono ?_; rintro e w1 ⟨he, hw⟩; unfold nszV at he; subst he; obtain rfl := hw.symm; clear hw) | (go_at_call 58; first | ((with_reducible refine (ID.out _).mono ?_); rintro e w1 ⟨rfl, hw⟩; obtain rfl := hw.symm; clear hw) | ((with_reducible refine (IE.out _).mono ?_); rintro e w1 ⟨rfl, hw⟩; obtain rfl := hw.symm; clear hw)) | (go_at_call 91; first | ((with_reducible refine (BF.out _).mono ?_); rintro e w1 ⟨he, hw⟩; unfold nszV at he; subst he; obtain rfl := hw.symm; clear hw)))
          go_ret2
          exact ⟨ret_nsz rfl rfl, rfl⟩
        | true =>
          have hlE := Js.isE_len hE
          have IE := Lib.hid (fun v => isAt_i ⟨#[101, 69]⟩ L (e2) ((e2 : Int)) (rfl) (hle2) true (by rw [show (⟨#[101, 69]⟩ : ByteArray).data.toList = [101, 69] from rfl, inO_isE]; exact hE) v)
          cases hP : Js.isPm (L.drop (e2 + 1)).head? with
          | false =>
            rw [bExp_yes L e2 hE hP]
            have IP := Lib.hid (fun v => isAt_i ⟨#[43, 45]⟩ L (e2 + 1) ((e2 : Int) + 1) (by omega) (by omega) false (by rw [show (⟨#[43, 45]⟩ : ByteArray).data.toList = [43, 45] from rfl, inO_isPm]; exact hP) v)
            have BE := Lib.hid (fun v => behindDigits_i L hL (e2 + 1) ((e2 : Int) + 1) (by omega) (by omega) v)
            clear h46 hE hP
            generalize Js.bDig L (e2 + 1) = z at *
            generalize bs L = s at *
            go_enter Tryd.func75, Tryd.ntmps75
            go_wp2_with (first | (go_at_call 90; refine (BI.out _).mono ?_; rintro e w1 ⟨he, hw⟩; unfold nszV at he; subst he; obtain rfl := hw.symm; clear hw) | (go_at_call 58; first | ((with_reducible refine (ID.out _).mono ?_); rintro e w1 ⟨rfl, hw⟩; obtain rfl := hw.symm; clear hw) | ((with_reducible refine (IE.out _).mono ?_); rintro e w1 ⟨rfl, hw⟩; obtain rfl := hw.symm; clear hw) | ((with_reducible refine (IP.out _).mono ?_); rintro e w1 ⟨rfl, hw⟩; obtain rfl := hw.symm; clear hw)) | (go_at_call 91; first | ((with_reducible refine (BF.out _).mono ?_); rintro e w1 ⟨he, hw⟩; unfold nszV at he; subst he; obtain rfl := hw.symm; clear hw) | ((with_reducible refine (BE.out _).mono ?_); rintro e w1 ⟨he, hw⟩; unfold nszV at he; subst he; obtain rfl := hw.symm; clear hw)))
            go_ret2
            exact ⟨ret_nsz rfl rfl, rfl⟩
          | true =>
            have hlP := Js.isPm_len hP
            rw [bExp_pm L e2 hE hP]
            have IP := Lib.hid (fun v => isAt_i ⟨#[43, 45]⟩ L (e2 + 1) ((e2 : Int) + 1) (by omega) (by omega) true (by rw [show (⟨#[43, 45]⟩ : ByteArray).data.toList = [43, 45] from rfl, inO_isPm]; exact hP) v)
            have BE := Lib.hid (fun v => behindDigits_i L hL (e2 + 2) ((e2 : Int) + 1 + 1) (by omega) (by omega) v)
            have BE2 := Lib.hid (fun v => behindDigits_i L hL (e2 + 2) ((e2 : Int) + 2) (by omega) (by omega) v)
            clear h46 hE hP
            generalize Js.bDig L (e2 + 2) = z at *
            generalize bs L = s at *
            go_enter Tryd.func75, Tryd.ntmps75
            go_wp2_with (first | (go_at_call 90; refine (BI.out _).mono ?_; rintro e w1 ⟨he, hw⟩; unfold nszV at he; subst he; obtain rfl := hw.symm; clear hw) | (go_at_call 58; first | ((with_reducible refine (ID.out _).mono ?_); rintro e w1 ⟨rfl, hw⟩; obtain rfl := hw.symm; clear hw) | ((with_reducible refine (IE.out _).mono ?_); rintro e w1 ⟨rfl, hw⟩; obtain rfl := hw.symm; clear hw) | ((with_reducible refine (IP.out _).mono ?_); rintro e w1 ⟨rfl, hw⟩; obtain rfl := hw.symm; clear hw)) | (go_at_call 91; first | ((with_reducible refine (BF.out _).mono ?_); rintro e w1 ⟨he, hw⟩; unfold nszV at he; subst he; obtain rfl := hw.symm; clear hw) | ((with_reducible refine (BE.out _).mono ?_); rintro e w1 ⟨he, hw⟩; unfold nszV at he; subst he; obtain rfl := hw.symm; clear hw) | ((with_reducible refine (BE2.out _).mono ?_); rintro e w1 ⟨he, hw⟩; unfold nszV at he; subst he; obtain rfl := hw.symm; clear hw)))
            go_ret2
            exact ⟨ret_nsz rfl rfl, rfl⟩
    · have ID := Lib.hid (fun v => isAt_i ⟨#[46]⟩ L (e1) ((e1 : Int)) (rfl) (hle) false (by rw [show (⟨#[46]⟩ : ByteArray).data.toList = [46] from rfl, inO_is]; exact decide_eq_false h46) v)
      rw [bFrac_no L e1 h46]
      cases hE : Js.isE (L.drop e1).head? with
      | false =>
        rw [bExp_no L e1 hE]
        have IE := Lib.hid (fun v => isAt_i ⟨#[101, 69]⟩ L (e1) ((e1 : Int)) (rfl) (hle) false (by rw [show (⟨#[101, 69]⟩ : ByteArray).data.toList = [101, 69] from rfl, inO_isE]; exact hE) v)
        clear h46 hE
        generalize bs L = s at *
        go_enter Tryd.func75, Tryd.ntmps75
        go_wp2_with (first | (go_at_call 90; refine (BI.out _).mono ?_; rintro e w1 ⟨he, hw⟩; unfold nszV at he; subst he; obtain rfl := hw.symm; clear hw) | (go_at_call 58; first | ((with_reducible refine (ID.out _).mono ?_); rintro e w1 ⟨rfl, hw⟩; obtain rfl := hw.symm; clear hw) | ((with_reducible refine (IE.out _).mono ?_); rintro e w1 ⟨rfl, hw⟩; obtain rfl := hw.symm; clear hw)))
        go_ret2
        exact ⟨ret_nsz rfl rfl, rfl⟩
      | true =>
        have hlE := Js.isE_len hE
        have IE := Lib.hid (fun v => isAt_i ⟨#[101, 69]⟩ L (e1) ((e1 : Int)) (rfl) (hle) true (by rw [show (⟨#[101, 69]⟩ : ByteArray).data.toList = [101, 69] from rfl, inO_isE]; exact hE) v)
        cases hP : Js.isPm (L.drop (e1 + 1)).head? with
        | false =>
          rw [bExp_yes L e1 hE hP]
          have IP := Lib.hid (fun v => isAt_i ⟨#[43, 45]⟩ L (e1 + 1) ((e1 : Int) + 1) (by omega) (by omega) false (by rw [show (⟨#[43, 45]⟩ : ByteArray).data.toList = [43, 45] from rfl, inO_isPm]; exact hP) v)
          have BE := Lib.hid (fun v => behindDigits_i L hL (e1 + 1) ((e1 : Int) + 1) (by omega) (by omega) v)
          clear h46 hE hP
          generalize Js.bDig L (e1 + 1) = z at *
          generalize bs L = s at *
          go_enter Tryd.func75, Tryd.ntmps75
          go_wp2_with (first | (go_at_call 90; refine (BI.out _).mono ?_; rintro e w1 ⟨he, hw⟩; unfold nszV at he; subst he; obtain rfl := hw.symm; clear hw) | (go_at_call 58; first | ((with_reducible refine (ID.out _).mono ?_); rintro e w1 ⟨rfl, hw⟩; obtain rfl := hw.symm; clear hw) | ((with_reducible refine (IE.out _).mono ?_); rintro e w1 ⟨rfl, hw⟩; obtain rfl := hw.symm; clear hw) | ((with_reducible refine (IP.out _).mono ?_); rintro e w1 ⟨rfl, hw⟩; obtain rfl := hw.symm; clear hw)) | (go_at_call 91; first | ((with_reducible refine (BE.out _).mono ?_); rintro e w1 ⟨he, hw⟩; unfold nszV at he; subst he; obtain rfl := hw.symm; clear hw)))
          go_ret2
          exact ⟨ret_nsz rfl rfl, rfl⟩
        | true =>
          have hlP := Js.isPm_len hP
          rw [bExp_pm L e1 hE hP]
          have IP := Lib.hid (fun v => isAt_i ⟨#[43, 45]⟩ L (e1 + 1) ((e1 : Int) + 1) (by omega) (by omega) true (by rw [show (⟨#[43, 45]⟩ : ByteArray).data.toList = [43, 45] from rfl, inO_isPm]; exact hP) v)
          have BE := Lib.hid (fun v => behindDigits_i L hL (e1 + 2) ((e1 : Int) + 1 + 1) (by omega) (by omega) v)
          have BE2 := Lib.hid (fun v => behindDigits_i L hL (e1 + 2) ((e1 : Int) + 2) (by omega) (by omega) v)
          clear h46 hE hP
          generalize Js.bDig L (e1 + 2) = z at *
          generalize bs L = s at *
          go_enter Tryd.func75, Tryd.ntmps75
          go_wp2_with (first | (go_at_call 90; refine (BI.out _).mono ?_; rintro e w1 ⟨he, hw⟩; unfold nszV at he; subst he; obtain rfl := hw.symm; clear hw) | (go_at_call 58; first | ((with_reducible refine (ID.out _).mono ?_); rintro e w1 ⟨rfl, hw⟩; obtain rfl := hw.symm; clear hw) | ((with_reducible refine (IE.out _).mono ?_); rintro e w1 ⟨rfl, hw⟩; obtain rfl := hw.symm; clear hw) | ((with_reducible refine (IP.out _).mono ?_); rintro e w1 ⟨rfl, hw⟩; obtain rfl := hw.symm; clear hw)) | (go_at_call 91; first | ((with_reducible refine (BE.out _).mono ?_); rintro e w1 ⟨he, hw⟩; unfold nszV at he; subst he; obtain rfl := hw.symm; clear hw) | ((with_reducible refine (BE2.out _).mono ?_); rintro e w1 ⟨he, hw⟩; unfold nszV at he; subst he; obtain rfl := hw.symm; clear hw)))
          go_ret2
          exact ⟨ret_nsz rfl rfl, rfl⟩
end Go.Proofs.YthfnlnhehececaaDoor
