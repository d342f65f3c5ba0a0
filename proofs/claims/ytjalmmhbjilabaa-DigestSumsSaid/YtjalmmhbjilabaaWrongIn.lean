/- The walk of what makes a four none, byte by byte. -/
import Derived.Test.YtjalmmhbjilabaaWrong
namespace Go.Proofs.Ytjalmmhbjilabaa
open Go.RowKit
attribute [local go_sem high] run_index_byte run_index_byte_0 run_index_byte_1 run_index_byte_2 run_index_byte_3

/-- What is answered of a four: the place that is wrong, or that none is. -/
def WrongV : Option Nat → Value → Prop
  | some i, v => v = .tuple #[.int .i64 i, .bool true]
  | none, v => ∃ k : Int, v = .tuple #[.int .i64 k, .bool false]
theorem wrongV_some {o : Option Nat} {i : Nat} (h : o = some i) : WrongV o (.tuple #[.int .i64 i, .bool true]) := by rw [h]; rfl
theorem wrongV_none {o : Option Nat} (h : o = none) (k : Int) : WrongV o (.tuple #[.int .i64 k, .bool false]) := by rw [h]; exact ⟨k, rfl⟩
theorem ext_ok {l : List UInt8} {last : Bool} {j : Nat} (h : ∀ m, m < j → Dig.okAt l last m = true) (hj : Dig.okAt l last j = true) : ∀ m, m < j + 1 → Dig.okAt l last m = true := by
  intro m hm
  by_cases e : m = j
  · subst e; exact hj
  · exact h m (by omega)

set_option maxRecDepth 100000 in
set_option maxHeartbeats 2000000 in
theorem wrongIn_false (f : ByteArray) (hf : f.size ≤ 4) (w : World) :
    Calls Try.prog 37 #[.string f, .bool false] w fun e w' => (∃ v, e = .returned v ∧ WrongV (Dig.wrong4 f.data.toList false) v) ∧ w = w' := by
  obtain ⟨l, hl⟩ : ∃ l, l = f.data.toList := ⟨_, rfl⟩
  have hlen : l.length = f.size := by rw [hl]; exact size_toList f
  rw [← hl]
  have HL := Lib.hid hl
  have HLEN := Lib.hid hlen
  clear hl hlen
  go_enter Try.func37, Try.ntmps37
  go_wp2_with fail
  go_loopw [11] (fun i wr => ∃ j : Nat, j ≤ f.size ∧ i = .int .i64 j ∧ w = wr ∧ ∀ m, m < j → Dig.okAt l false m = true) (fun i _ => f.size - (intOf i).toNat)
  case atStart => exact ⟨0, by omega, rfl, rfl, fun m hm => by omega⟩
  case round =>
    obtain ⟨j, hj, rfl, rfl, hgood⟩ := hrel
    by_cases hlt : j < f.size
    · have h4 : j = 0 ∨ j = 1 ∨ j = 2 ∨ j = 3 := by omega
      have e0 : strAt f 0 = l.getD 0 0 := by rw [HL.out, strAt_eq]
      have e1 : strAt f 1 = l.getD 1 0 := by rw [HL.out, strAt_eq]
      have e2 : strAt f 2 = l.getD 2 0 := by rw [HL.out, strAt_eq]
      have e3 : strAt f 3 = l.getD 3 0 := by rw [HL.out, strAt_eq]
      rcases h4 with rfl | rfl | rfl | rfl
      · by_cases hv : Dig.value (strAt f 0) < 64
        · have hok : Dig.okAt l false 0 = true := by rw [Dig.okAt_low (by omega), ← e0]; exact decide_eq_true hv
          have HG := Lib.hid (ext_ok hgood hok)
          clear hgood hok e0 e1 e2 e3
          go_wp2_with (go_at_call 54; refine (valueOf_yes _ hv _).mono ?_; rintro e w' ⟨rfl, rfl⟩)
          go_roundw
          case rel => exact ⟨1, by omega, rfl, trivial, HG.out⟩
          case measure => simp [intOf]; omega
        · have hok : Dig.okAt l false 0 = false := by rw [Dig.okAt_low (by omega), ← e0]; exact decide_eq_false hv
          have HW := Lib.hid (wrongV_some (Dig.wrong4_at (by rw [HLEN.out]; exact hlt) hgood hok))
          clear hgood hok e0 e1 e2 e3
          go_wp2_with (go_at_call 54; refine (valueOf_no _ hv _).mono ?_; rintro e w' ⟨rfl, rfl⟩)
          go_ret2
          exact ⟨⟨_, rfl, HW.out⟩, rfl⟩
      · by_cases hv : Dig.value (strAt f 1) < 64
        · have hok : Dig.okAt l false 1 = true := by rw [Dig.okAt_low (by omega), ← e1]; exact decide_eq_true hv
          have HG := Lib.hid (ext_ok hgood hok)
          clear hgood hok e0 e1 e2 e3
          go_wp2_with (go_at_call 54; refine (valueOf_yes _ hv _).mono ?_; rintro e w' ⟨rfl, rfl⟩)
          go_roundw
          case rel => exact ⟨2, by omega, rfl, trivial, HG.out⟩
          case measure => simp [intOf]; omega
        · have hok : Dig.okAt l false 1 = false := by rw [Dig.okAt_low (by omega), ← e1]; exact decide_eq_false hv
          have HW := Lib.hid (wrongV_some (Dig.wrong4_at (by rw [HLEN.out]; exact hlt) hgood hok))
          clear hgood hok e0 e1 e2 e3
          go_wp2_with (go_at_call 54; refine (valueOf_no _ hv _).mono ?_; rintro e w' ⟨rfl, rfl⟩)
          go_ret2
          exact ⟨⟨_, rfl, HW.out⟩, rfl⟩
      · by_cases h2 : l.getD 2 0 = 61
        · have b2 := eq61 (e2.trans h2)
          have hok : Dig.okAt l false 2 = false := Dig.okAt_2_end h2
          have HW := Lib.hid (wrongV_some (Dig.wrong4_at (by rw [HLEN.out]; exact hlt) hgood hok))
          clear hgood hok e0 e1 e2 e3
          go_wp2_with (go_at_call 54; refine (valueOf_v _ _).mono ?_; rintro e w' ⟨⟨b, rfl⟩, rfl⟩)
          go_ret2
          exact ⟨⟨_, rfl, HW.out⟩, rfl⟩
        · have b2 := ne61 (fun e => h2 (e2.symm.trans e))
          by_cases hv : Dig.value (strAt f 2) < 64
          · have hok : Dig.okAt l false 2 = true := by rw [Dig.okAt_2 h2, ← e2]; exact decide_eq_true hv
            have HG := Lib.hid (ext_ok hgood hok)
            clear hgood hok e0 e1 e2 e3
            go_wp2_with (go_at_call 54; refine (valueOf_yes _ hv _).mono ?_; rintro e w' ⟨rfl, rfl⟩)
            go_roundw
            case rel => exact ⟨3, by omega, rfl, trivial, HG.out⟩
            case measure => simp [intOf]; omega
          · have hok : Dig.okAt l false 2 = false := by rw [Dig.okAt_2 h2, ← e2]; exact decide_eq_false hv
            have HW := Lib.hid (wrongV_some (Dig.wrong4_at (by rw [HLEN.out]; exact hlt) hgood hok))
            clear hgood hok e0 e1 e2 e3
            go_wp2_with (go_at_call 54; refine (valueOf_no _ hv _).mono ?_; rintro e w' ⟨rfl, rfl⟩)
            go_ret2
            exact ⟨⟨_, rfl, HW.out⟩, rfl⟩
      · have h2s : 2 < f.size := by omega
        by_cases h2 : l.getD 2 0 = 61
        · have b2 := eq61 (e2.trans h2)
          by_cases h3 : l.getD 3 0 = 61
          · have b3 := eq61 (e3.trans h3)
            have hok : Dig.okAt l false 3 = true := by rw [Dig.okAt_3_both h2, beq_iff_eq]; exact h3
            have HG := Lib.hid (ext_ok hgood hok)
            clear hgood hok e0 e1 e2 e3
            go_wp2_with (go_at_call 54; refine (valueOf_v _ _).mono ?_; rintro e w' ⟨⟨b, rfl⟩, rfl⟩)
            go_roundw
            case rel => exact ⟨4, by omega, rfl, trivial, HG.out⟩
            case measure => simp [intOf]; omega
          · have b3 := ne61 (fun e => h3 (e3.symm.trans e))
            have hok : Dig.okAt l false 3 = false := by rw [Dig.okAt_3_both h2, beq_eq_false_iff_ne]; exact h3
            have HW := Lib.hid (wrongV_some (Dig.wrong4_at (by rw [HLEN.out]; exact hlt) hgood hok))
            clear hgood hok e0 e1 e2 e3
            go_wp2_with (go_at_call 54; refine (valueOf_v _ _).mono ?_; rintro e w' ⟨⟨b, rfl⟩, rfl⟩)
            go_ret2
            exact ⟨⟨_, rfl, HW.out⟩, rfl⟩
        · have b2 := ne61 (fun e => h2 (e2.symm.trans e))
          by_cases h3 : l.getD 3 0 = 61
          · have b3 := eq61 (e3.trans h3)
            have hok : Dig.okAt l false 3 = false := Dig.okAt_3_end h2 h3
            have HW := Lib.hid (wrongV_some (Dig.wrong4_at (by rw [HLEN.out]; exact hlt) hgood hok))
            clear hgood hok e0 e1 e2 e3
            go_wp2_with (go_at_call 54; refine (valueOf_v _ _).mono ?_; rintro e w' ⟨⟨b, rfl⟩, rfl⟩)
            go_ret2
            exact ⟨⟨_, rfl, HW.out⟩, rfl⟩
          · have b3 := ne61 (fun e => h3 (e3.symm.trans e))
            by_cases hv : Dig.value (strAt f 3) < 64
            · have hok : Dig.okAt l false 3 = true := by rw [Dig.okAt_3 h2 h3, ← e3]; exact decide_eq_true hv
              have HG := Lib.hid (ext_ok hgood hok)
              clear hgood hok e0 e1 e2 e3
              go_wp2_with (go_at_call 54; refine (valueOf_yes _ hv _).mono ?_; rintro e w' ⟨rfl, rfl⟩)
              go_roundw
              case rel => exact ⟨4, by omega, rfl, trivial, HG.out⟩
              case measure => simp [intOf]; omega
            · have hok : Dig.okAt l false 3 = false := by rw [Dig.okAt_3 h2 h3, ← e3]; exact decide_eq_false hv
              have HW := Lib.hid (wrongV_some (Dig.wrong4_at (by rw [HLEN.out]; exact hlt) hgood hok))
              clear hgood hok e0 e1 e2 e3
              go_wp2_with (go_at_call 54; refine (valueOf_no _ hv _).mono ?_; rintro e w' ⟨rfl, rfl⟩)
              go_ret2
              exact ⟨⟨_, rfl, HW.out⟩, rfl⟩
    · obtain rfl : j = f.size := by omega
      have hall : ∀ i, i < l.length → Dig.okAt l false i = true := fun i hi => hgood i (by rw [← HLEN.out]; exact hi)
      by_cases h4 : f.size < 4
      · have hw := Dig.wrong4_short hall (by rw [HLEN.out]; exact h4)
        rw [HLEN.out] at hw
        have HW := Lib.hid (wrongV_some hw)
        clear hall hgood hw
        go_wp2_with fail
        go_ret2
        exact ⟨⟨_, rfl, HW.out⟩, rfl⟩
      · have hf4 : f.size = 4 := by omega
        by_cases hz : Dig.value0 (l.getD (Dig.looseAt l).1 0) % (Dig.looseAt l).2 = 0
        · have HW := Lib.hid (wrongV_none (Dig.wrong4_none hall (by rw [HLEN.out]; exact hf4) hz) (Dig.looseAt l).1)
          have HZ := Lib.hid hz
          have H4 := Lib.hid hf4
          clear hall hgood hz
          go_wp2_with (go_at_call 55; refine (looseIn_any f H4.out _).mono ?_; rintro e w' ⟨rfl, rfl⟩; rw [← HL.out, decide_eq_false (fun h => h HZ.out)])
          go_ret2
          exact ⟨⟨_, rfl, HW.out⟩, rfl⟩
        · have HW := Lib.hid (wrongV_some (Dig.wrong4_loose hall (by rw [HLEN.out]; exact hf4) hz))
          have HZ := Lib.hid hz
          have H4 := Lib.hid hf4
          clear hall hgood hz
          go_wp2_with (go_at_call 55; refine (looseIn_any f H4.out _).mono ?_; rintro e w' ⟨rfl, rfl⟩; rw [← HL.out, decide_eq_true HZ.out])
          go_ret2
          exact ⟨⟨_, rfl, HW.out⟩, rfl⟩

set_option maxRecDepth 100000 in
set_option maxHeartbeats 2000000 in
theorem wrongIn_true (f : ByteArray) (hf : f.size ≤ 4) (w : World) :
    Calls Try.prog 37 #[.string f, .bool true] w fun e w' => (∃ v, e = .returned v ∧ WrongV (Dig.wrong4 f.data.toList true) v) ∧ w = w' := by
  obtain ⟨l, hl⟩ : ∃ l, l = f.data.toList := ⟨_, rfl⟩
  have hlen : l.length = f.size := by rw [hl]; exact size_toList f
  rw [← hl]
  have HL := Lib.hid hl
  have HLEN := Lib.hid hlen
  clear hl hlen
  go_enter Try.func37, Try.ntmps37
  go_wp2_with fail
  go_loopw [11] (fun i wr => ∃ j : Nat, j ≤ f.size ∧ i = .int .i64 j ∧ w = wr ∧ ∀ m, m < j → Dig.okAt l true m = true) (fun i _ => f.size - (intOf i).toNat)
  case atStart => exact ⟨0, by omega, rfl, rfl, fun m hm => by omega⟩
  case round =>
    obtain ⟨j, hj, rfl, rfl, hgood⟩ := hrel
    by_cases hlt : j < f.size
    · have h4 : j = 0 ∨ j = 1 ∨ j = 2 ∨ j = 3 := by omega
      have e0 : strAt f 0 = l.getD 0 0 := by rw [HL.out, strAt_eq]
      have e1 : strAt f 1 = l.getD 1 0 := by rw [HL.out, strAt_eq]
      have e2 : strAt f 2 = l.getD 2 0 := by rw [HL.out, strAt_eq]
      have e3 : strAt f 3 = l.getD 3 0 := by rw [HL.out, strAt_eq]
      rcases h4 with rfl | rfl | rfl | rfl
      · by_cases hv : Dig.value (strAt f 0) < 64
        · have hok : Dig.okAt l true 0 = true := by rw [Dig.okAt_low (by omega), ← e0]; exact decide_eq_true hv
          have HG := Lib.hid (ext_ok hgood hok)
          clear hgood hok e0 e1 e2 e3
          go_wp2_with (go_at_call 54; refine (valueOf_yes _ hv _).mono ?_; rintro e w' ⟨rfl, rfl⟩)
          go_roundw
          case rel => exact ⟨1, by omega, rfl, trivial, HG.out⟩
          case measure => simp [intOf]; omega
        · have hok : Dig.okAt l true 0 = false := by rw [Dig.okAt_low (by omega), ← e0]; exact decide_eq_false hv
          have HW := Lib.hid (wrongV_some (Dig.wrong4_at (by rw [HLEN.out]; exact hlt) hgood hok))
          clear hgood hok e0 e1 e2 e3
          go_wp2_with (go_at_call 54; refine (valueOf_no _ hv _).mono ?_; rintro e w' ⟨rfl, rfl⟩)
          go_ret2
          exact ⟨⟨_, rfl, HW.out⟩, rfl⟩
      · by_cases hv : Dig.value (strAt f 1) < 64
        · have hok : Dig.okAt l true 1 = true := by rw [Dig.okAt_low (by omega), ← e1]; exact decide_eq_true hv
          have HG := Lib.hid (ext_ok hgood hok)
          clear hgood hok e0 e1 e2 e3
          go_wp2_with (go_at_call 54; refine (valueOf_yes _ hv _).mono ?_; rintro e w' ⟨rfl, rfl⟩)
          go_roundw
          case rel => exact ⟨2, by omega, rfl, trivial, HG.out⟩
          case measure => simp [intOf]; omega
        · have hok : Dig.okAt l true 1 = false := by rw [Dig.okAt_low (by omega), ← e1]; exact decide_eq_false hv
          have HW := Lib.hid (wrongV_some (Dig.wrong4_at (by rw [HLEN.out]; exact hlt) hgood hok))
          clear hgood hok e0 e1 e2 e3
          go_wp2_with (go_at_call 54; refine (valueOf_no _ hv _).mono ?_; rintro e w' ⟨rfl, rfl⟩)
          go_ret2
          exact ⟨⟨_, rfl, HW.out⟩, rfl⟩
      · by_cases h2 : l.getD 2 0 = 61
        · have b2 := eq61 (e2.trans h2)
          have hok : Dig.okAt l true 2 = true := Dig.okAt_2_end h2
          have HG := Lib.hid (ext_ok hgood hok)
          clear hgood hok e0 e1 e2 e3
          go_wp2_with (go_at_call 54; refine (valueOf_v _ _).mono ?_; rintro e w' ⟨⟨b, rfl⟩, rfl⟩)
          go_roundw
          case rel => exact ⟨3, by omega, rfl, trivial, HG.out⟩
          case measure => simp [intOf]; omega
        · have b2 := ne61 (fun e => h2 (e2.symm.trans e))
          by_cases hv : Dig.value (strAt f 2) < 64
          · have hok : Dig.okAt l true 2 = true := by rw [Dig.okAt_2 h2, ← e2]; exact decide_eq_true hv
            have HG := Lib.hid (ext_ok hgood hok)
            clear hgood hok e0 e1 e2 e3
            go_wp2_with (go_at_call 54; refine (valueOf_yes _ hv _).mono ?_; rintro e w' ⟨rfl, rfl⟩)
            go_roundw
            case rel => exact ⟨3, by omega, rfl, trivial, HG.out⟩
            case measure => simp [intOf]; omega
          · have hok : Dig.okAt l true 2 = false := by rw [Dig.okAt_2 h2, ← e2]; exact decide_eq_false hv
            have HW := Lib.hid (wrongV_some (Dig.wrong4_at (by rw [HLEN.out]; exact hlt) hgood hok))
            clear hgood hok e0 e1 e2 e3
            go_wp2_with (go_at_call 54; refine (valueOf_no _ hv _).mono ?_; rintro e w' ⟨rfl, rfl⟩)
            go_ret2
            exact ⟨⟨_, rfl, HW.out⟩, rfl⟩
      · have h2s : 2 < f.size := by omega
        by_cases h2 : l.getD 2 0 = 61
        · have b2 := eq61 (e2.trans h2)
          by_cases h3 : l.getD 3 0 = 61
          · have b3 := eq61 (e3.trans h3)
            have hok : Dig.okAt l true 3 = true := by rw [Dig.okAt_3_both h2, beq_iff_eq]; exact h3
            have HG := Lib.hid (ext_ok hgood hok)
            clear hgood hok e0 e1 e2 e3
            go_wp2_with (go_at_call 54; refine (valueOf_v _ _).mono ?_; rintro e w' ⟨⟨b, rfl⟩, rfl⟩)
            go_roundw
            case rel => exact ⟨4, by omega, rfl, trivial, HG.out⟩
            case measure => simp [intOf]; omega
          · have b3 := ne61 (fun e => h3 (e3.symm.trans e))
            have hok : Dig.okAt l true 3 = false := by rw [Dig.okAt_3_both h2, beq_eq_false_iff_ne]; exact h3
            have HW := Lib.hid (wrongV_some (Dig.wrong4_at (by rw [HLEN.out]; exact hlt) hgood hok))
            clear hgood hok e0 e1 e2 e3
            go_wp2_with (go_at_call 54; refine (valueOf_v _ _).mono ?_; rintro e w' ⟨⟨b, rfl⟩, rfl⟩)
            go_ret2
            exact ⟨⟨_, rfl, HW.out⟩, rfl⟩
        · have b2 := ne61 (fun e => h2 (e2.symm.trans e))
          by_cases h3 : l.getD 3 0 = 61
          · have b3 := eq61 (e3.trans h3)
            have hok : Dig.okAt l true 3 = true := Dig.okAt_3_end h2 h3
            have HG := Lib.hid (ext_ok hgood hok)
            clear hgood hok e0 e1 e2 e3
            go_wp2_with (go_at_call 54; refine (valueOf_v _ _).mono ?_; rintro e w' ⟨⟨b, rfl⟩, rfl⟩)
            go_roundw
            case rel => exact ⟨4, by omega, rfl, trivial, HG.out⟩
            case measure => simp [intOf]; omega
          · have b3 := ne61 (fun e => h3 (e3.symm.trans e))
            by_cases hv : Dig.value (strAt f 3) < 64
            · have hok : Dig.okAt l true 3 = true := by rw [Dig.okAt_3 h2 h3, ← e3]; exact decide_eq_true hv
              have HG := Lib.hid (ext_ok hgood hok)
              clear hgood hok e0 e1 e2 e3
              go_wp2_with (go_at_call 54; refine (valueOf_yes _ hv _).mono ?_; rintro e w' ⟨rfl, rfl⟩)
              go_roundw
              case rel => exact ⟨4, by omega, rfl, trivial, HG.out⟩
              case measure => simp [intOf]; omega
            · have hok : Dig.okAt l true 3 = false := by rw [Dig.okAt_3 h2 h3, ← e3]; exact decide_eq_false hv
              have HW := Lib.hid (wrongV_some (Dig.wrong4_at (by rw [HLEN.out]; exact hlt) hgood hok))
              clear hgood hok e0 e1 e2 e3
              go_wp2_with (go_at_call 54; refine (valueOf_no _ hv _).mono ?_; rintro e w' ⟨rfl, rfl⟩)
              go_ret2
              exact ⟨⟨_, rfl, HW.out⟩, rfl⟩
    · obtain rfl : j = f.size := by omega
      have hall : ∀ i, i < l.length → Dig.okAt l true i = true := fun i hi => hgood i (by rw [← HLEN.out]; exact hi)
      by_cases h4 : f.size < 4
      · have hw := Dig.wrong4_short hall (by rw [HLEN.out]; exact h4)
        rw [HLEN.out] at hw
        have HW := Lib.hid (wrongV_some hw)
        clear hall hgood hw
        go_wp2_with fail
        go_ret2
        exact ⟨⟨_, rfl, HW.out⟩, rfl⟩
      · have hf4 : f.size = 4 := by omega
        by_cases hz : Dig.value0 (l.getD (Dig.looseAt l).1 0) % (Dig.looseAt l).2 = 0
        · have HW := Lib.hid (wrongV_none (Dig.wrong4_none hall (by rw [HLEN.out]; exact hf4) hz) (Dig.looseAt l).1)
          have HZ := Lib.hid hz
          have H4 := Lib.hid hf4
          clear hall hgood hz
          go_wp2_with (go_at_call 55; refine (looseIn_any f H4.out _).mono ?_; rintro e w' ⟨rfl, rfl⟩; rw [← HL.out, decide_eq_false (fun h => h HZ.out)])
          go_ret2
          exact ⟨⟨_, rfl, HW.out⟩, rfl⟩
        · have HW := Lib.hid (wrongV_some (Dig.wrong4_loose hall (by rw [HLEN.out]; exact hf4) hz))
          have HZ := Lib.hid hz
          have H4 := Lib.hid hf4
          clear hall hgood hz
          go_wp2_with (go_at_call 55; refine (looseIn_any f H4.out _).mono ?_; rintro e w' ⟨rfl, rfl⟩; rw [← HL.out, decide_eq_true HZ.out])
          go_ret2
          exact ⟨⟨_, rfl, HW.out⟩, rfl⟩

theorem wrongIn_any (f : ByteArray) (last : Bool) (hf : f.size ≤ 4) (w : World) :
    Calls Try.prog 37 #[.string f, .bool last] w fun e w' => (∃ v, e = .returned v ∧ WrongV (Dig.wrong4 f.data.toList last) v) ∧ w = w' := by
  cases last
  · exact wrongIn_false f hf w
  · exact wrongIn_true f hf w
end Go.Proofs.Ytjalmmhbjilabaa
