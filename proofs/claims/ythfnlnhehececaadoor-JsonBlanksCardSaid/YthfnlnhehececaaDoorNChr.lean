/- The program reads a character, and a text. -/
import Derived.Test.YthfnlnhehececaaDoorNEsc
namespace Go.Proofs.YthfnlnhehececaaDoor
open Go.RowKit

theorem rest_bs (S l : List UInt8) (p : Nat) (h : Here S p l) (v : World) : (Instr.slice 9 (.string (bs S)) (some (.int .i64 (p : Int))) none none).run Tryd.prog v = .ok (.string (bs l)) v := by
  rw [run_rest_string v 9 (bs S) .i64 p Tryd.underlying9 (by rw [bs_size]; have := h.le; omega)]
  congr 2
  exact bs_of (by rw [extract_from, bs_list, h.eq])
/-- What stands in a character's way: nothing (0) or how many bytes it has. -/
def chrN (l : List UInt8) : Nat × Nat := (Js.u8c l).getD (65533, if l = [] then 0 else 1)
set_option maxRecDepth 100000 in
set_option maxHeartbeats 4000000 in
theorem character_plain (S l : List UInt8) (hS : S.length ≤ 140737488355328) (b p d : Nat) (w : World) (hT : Tb w) (hr : Rd w b (bs S) p d) (hl : Here S p l) (hh : l.head? ≠ some 92) (c n : Nat) (hcn : chrN l = (c, n)) (hn : n ≤ 4) (hnl : p + n ≤ S.length) (hc32 : ¬ c < 32) (hrn : c ≠ 65533 ∨ 1 < n) (hc : c ≤ 1114111) :
    Calls Tryd.prog 82 #[.pointer (some ⟨b, 0, none⟩)] w fun e w' => e = .returned (.int .i32 c) ∧ Rd w' b (bs S) (p + n) d ∧ Kept w.heap.size [b] w w' := by
  have D := fun v hv => dec_any l v hv
  rw [show (Js.u8c l).getD (65533, if l = [] then 0 else 1) = (c, n) from hcn] at D
  simp only at D
  have D := Lib.hid D
  have H := Lib.hid (fun v hv => has_any S l 92 b p d v hv hl)
  rw [show decide (l.head? = some 92) = false from decide_eq_false hh] at H
  have RS := rest_bs S l p hl
  have HR := Lib.hid hr
  have HT := Lib.hid hT
  have q1 : decide ((c : Int) < 32) = false := decide_eq_false (by omega)
  clear hr hl hh hcn hT
  generalize bs S = s at *
  generalize bs l = t at *
  go_enter Tryd.func82, Tryd.ntmps82
  go_wp2_with (go_at_call 59; refine (H.out _ HR.out).mono ?_; rintro e w1 ⟨rfl, hb1⟩; have R1 := Lib.hid (HR.out.below hb1); have T1 := Lib.hid (HT.out.below hb1); have B1 := Lib.hid hb1; clear hb1)
  have SC := Lib.hid (quiet_S (S := Sn w1) Sn.next (fun v hv => D.out v (T1.out.below hv)))
  have L0 := Sn.cell R1.out.c0 R1.out.lt
  have L1 := Sn.cell R1.out.c1 R1.out.lt
  haveI : Nonempty (Of (Sn w1)) := ⟨⟨_, Sn.start w1⟩⟩
  refine wp_region_S (Sn w1) (by kernel_rfl) (by kernel_rfl) (Sn.start _) ?_
  repeat (go_big_quiet_step (first | (go_at_call 95; with_reducible exact SC.out _)))
  refine wpQuiet_nil ?_
  rintro w2 ⟨u2, e2⟩
  have R2 : Rd w2 b s p d := by rw [e2]; exact R1.out.below u2.ok
  have B2 := Lib.hid (show Below w1.heap.size w1 w2 by rw [e2]; exact u2.ok)
  clear e2 u2 this L0 L1 SC RS
  have c1 := R2.c1
  have f1 := R2.f 1
  by_cases hcr : c = 65533
  · have q2 : ((c : Int) == 65533) = true := by rw [hcr]; rfl
    have q3 : decide ((n : Int) ≤ 1) = false := decide_eq_false (by omega)
    go_wp2_with fail
    go_ret
    exact ⟨rfl, R2.set1 (p + n), ((Kept.of_below B1.out).trans (Kept.of_below (B2.out.mono B1.out.size))).trans ((kset b 1 _).mono (Nat.le_trans B1.out.size B2.out.size) (fun _ _ h => h))⟩
  · have q2 : ((c : Int) == 65533) = false := by simp; omega
    go_wp2_with fail
    go_ret
    exact ⟨rfl, R2.set1 (p + n), ((Kept.of_below B1.out).trans (Kept.of_below (B2.out.mono B1.out.size))).trans ((kset b 1 _).mono (Nat.le_trans B1.out.size B2.out.size) (fun _ _ h => h))⟩
set_option maxRecDepth 100000 in
set_option maxHeartbeats 4000000 in
theorem character_none (S l : List UInt8) (b p d : Nat) (w : World) (hT : Tb w) (hr : Rd w b (bs S) p d) (hl : Here S p l) (hh : l.head? ≠ some 92) (c n : Nat) (hcn : chrN l = (c, n)) (hbad : c < 32 ∨ ¬ c < 32 ∧ c = 65533 ∧ n ≤ 1) :
    Calls Tryd.prog 82 #[.pointer (some ⟨b, 0, none⟩)] w fun e w' => e = .panicked (rfc 54 p) ∧ Below w.heap.size w w' := by
  have D := fun v hv => dec_any l v hv
  rw [show (Js.u8c l).getD (65533, if l = [] then 0 else 1) = (c, n) from hcn] at D
  simp only at D
  have D := Lib.hid D
  have H := Lib.hid (fun v hv => has_any S l 92 b p d v hv hl)
  rw [show decide (l.head? = some 92) = false from decide_eq_false hh] at H
  have RS := rest_bs S l p hl
  have HR := Lib.hid hr
  have HT := Lib.hid hT
  clear hr hl hh hcn hT
  generalize bs S = s at *
  generalize bs l = t at *
  go_enter Tryd.func82, Tryd.ntmps82
  go_wp2_with (go_at_call 59; refine (H.out _ HR.out).mono ?_; rintro e w1 ⟨rfl, hb1⟩; have R1 := Lib.hid (HR.out.below hb1); have T1 := Lib.hid (HT.out.below hb1); have B1 := Lib.hid hb1; clear hb1)
  have SC := Lib.hid (quiet_S (S := Sn w1) Sn.next (fun v hv => D.out v (T1.out.below hv)))
  have L0 := Sn.cell R1.out.c0 R1.out.lt
  have L1 := Sn.cell R1.out.c1 R1.out.lt
  haveI : Nonempty (Of (Sn w1)) := ⟨⟨_, Sn.start w1⟩⟩
  refine wp_region_S (Sn w1) (by kernel_rfl) (by kernel_rfl) (Sn.start _) ?_
  repeat (go_big_quiet_step (first | (go_at_call 95; with_reducible exact SC.out _)))
  refine wpQuiet_nil ?_
  rintro w2 ⟨u2, e2⟩
  have R2 : Rd w2 b s p d := by rw [e2]; exact R1.out.below u2.ok
  have B2 := Lib.hid (show Below w1.heap.size w1 w2 by rw [e2]; exact u2.ok)
  clear e2 u2 this L0 L1 SC RS
  have c1 := R2.c1
  rcases hbad with h | ⟨h1, h2, h3⟩
  · have q1 : decide ((c : Int) < 32) = true := decide_eq_true (by omega)
    go_wp2_with fail
    exact ⟨rfl, rfl, B1.out.trans (B2.out.mono B1.out.size)⟩
  · have q1 : decide ((c : Int) < 32) = false := decide_eq_false (by omega)
    have q2 : ((c : Int) == 65533) = true := by rw [h2]; rfl
    have q3 : decide ((n : Int) ≤ 1) = true := decide_eq_true (by omega)
    go_wp2_with fail
    exact ⟨rfl, rfl, B1.out.trans (B2.out.mono B1.out.size)⟩
set_option maxHeartbeats 1000000 in
theorem character_any (S l : List UInt8) (hS : S.length ≤ 140737488355328) (b p d : Nat) (w : World) (hT : Tb w) (hr : Rd w b (bs S) p d) (hl : Here S p l) :
    Calls Tryd.prog 82 #[.pointer (some ⟨b, 0, none⟩)] w (Out b S d w (fun x v _ => v = .int .i32 ((x : Nat) : Int) ∧ x ≤ 1114111) (Js.chr l)) := by
  by_cases hh : l.head? = some 92
  · cases l with
    | nil => cases hh
    | cons c r =>
      obtain rfl : c = 92 := by simpa using hh
      have E := escape_any S r hS b p d
      have H := Lib.hid (fun v hv => has_any S _ 92 b p d v hv hl)
      have HR := Lib.hid hr
      rw [show decide ((92 :: r).head? = some 92) = true from decide_eq_true hh] at H
      unfold Js.chr
      rw [if_pos hh]
      have E := Lib.hid (fun v hv => E v hv hl)
      clear hr hl hh
      cases he : Js.esc (92 :: r) with
      | bad k q =>
        rw [he] at E
        clear he
        go_enter Tryd.func82, Tryd.ntmps82
        go_wp2_with (first | (go_at_call 59; refine (H.out _ HR.out).mono ?_; rintro e w1 ⟨rfl, hb1⟩; have R1 := Lib.hid (HR.out.below hb1); have B1 := Lib.hid hb1; clear hb1) | (go_at_call 94; refine (E.out _ R1.out).mono ?_; rintro e w2 ⟨rfl, hk2⟩))
        exact ⟨rfl, rfl, kk (Kept.of_below B1.out) hk2⟩
      | ok x q =>
        have hx := esc_lt he
        rw [he] at E
        clear he
        go_enter Tryd.func82, Tryd.ntmps82
        go_wp2_with (first | (go_at_call 59; refine (H.out _ HR.out).mono ?_; rintro e w1 ⟨rfl, hb1⟩; have R1 := Lib.hid (HR.out.below hb1); have B1 := Lib.hid hb1; clear hb1) | (go_at_call 94; refine (E.out _ R1.out).mono ?_; rintro e w2 ⟨v2, rfl, rfl, hr2, hk2⟩))
        go_ret
        exact ⟨_, rfl, ⟨rfl, hx⟩, hr2, kk (Kept.of_below B1.out) hk2⟩
  · have hat := hl.at_
    unfold Js.chr
    rw [if_neg hh]
    cases hu : Js.u8c l with
    | none =>
      refine (character_none S l b p d w hT hr hl hh 65533 (if l = [] then 0 else 1) (by unfold chrN; rw [hu]; rfl) (Or.inr ⟨by omega, rfl, by split <;> omega⟩)).mono ?_
      rintro e w' ⟨rfl, hb⟩
      exact ⟨by rw [hat], Kept.of_below hb⟩
    | some x =>
      obtain ⟨c, n⟩ := x
      have h3 := Js.enc_u8c hu
      simp only
      by_cases hc : c < 32
      · rw [if_pos hc]
        refine (character_none S l b p d w hT hr hl hh c n (by unfold chrN; rw [hu]; rfl) (Or.inl hc)).mono ?_
        rintro e w' ⟨rfl, hb⟩
        exact ⟨by rw [hat], Kept.of_below hb⟩
      · rw [if_neg hc]
        have hd := hl.drop n h3.2.2.1
        refine (character_plain S l hS b p d w hT hr hl hh c n (by unfold chrN; rw [hu]; rfl) h3.2.2.2.1 (by have := hd.le; omega) hc ?_ h3.2.2.2.2.1).mono ?_
        · by_cases e : c = 65533
          · refine Or.inr ?_
            have := congrArg List.length h3.1
            rw [e, show Js.enc 65533 = [239, 191, 189] by decide, List.length_take] at this
            simp only [List.length_cons, List.length_nil] at this
            omega
          · exact Or.inl e
        · rintro e w' ⟨rfl, hr', hk⟩
          exact ⟨_, rfl, ⟨rfl, h3.2.2.2.2.1⟩, by rw [hd.at_]; exact hr', hk⟩
end Go.Proofs.YthfnlnhehececaaDoor
