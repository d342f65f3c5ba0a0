/- The program asks whether names may be. -/
import Derived.Test.YthfnlnhehececaaDoorNRt
import Derived.Test.YthfnlnhehececaaDoorNWord
namespace Go.Proofs.YthfnlnhehececaaDoor
open Go Go.RowKit

theorem areNames1_any (x : List UInt8) (hx : x.length ≤ 140737488355328) (w : World) (hT : Tb w) : Calls Tryd.prog 88 #[.string (bs x)] w fun e w' => e = .returned (.bool (!Js.utf x)) ∧ Below w.heap.size w w' := by
  have V := Lib.hid (fun v hT => k_utf8_ValidString (bs x) v (by rw [bs_size]; omega) hT)
  rw [bs_list, Js.utf_valid _ _ (Nat.le_refl _)] at V
  have HT := Lib.hid hT
  generalize bs x = s at *
  generalize Js.utf x = r at *
  have hnot : ∀ (x : Bool) (w : World), (Op.unary .not (.bool x)).run Tryd.prog w = .ok (.bool (!x)) w := fun _ _ => rfl
  clear hT
  go_enter Tryd.func88, Tryd.ntmps88
  go_wp2_with (first | (go_at_call 65; refine (V.out _ HT.out).mono ?_; rintro e w1 ⟨rfl, hb1⟩))
  go_ret
  exact ⟨rfl, hb1⟩
theorem NsAt.sl {w : World} {F : Nat → Prop} {nv : Value} {ns : List (List UInt8)} (h : NsAt w F nv ns) : ∃ a c, nv = .slice a ns.length c ∧ ∀ i x, ns[i]? = some x → ∃ g o, a = some ⟨g, o, none⟩ ∧ F g ∧ g < w.heap.size ∧ w.cell? ⟨g, o + i, none⟩ = some (.string (bs x)) := by
  rcases h with ⟨rfl, a, c, rfl⟩ | ⟨g, o, c, rfl, _, hF, hg, hc⟩
  · exact ⟨a, c, rfl, fun i x hx => by simp at hx⟩
  · exact ⟨_, c, rfl, fun i x hx => ⟨g, o, rfl, hF, hg, hc i x hx⟩⟩
theorem KsAt.sl {w : World} {F : Nat → Prop} {kv : Value} {vs : List Value} (h : KsAt w F kv vs) : ∃ a c, kv = .slice a vs.length c ∧ ∀ i v, vs[i]? = some v → ∃ g o, a = some ⟨g, o, none⟩ ∧ F g ∧ g < w.heap.size ∧ Lies w g (o + 4 * i) v := by
  rcases h with ⟨rfl, a, c, rfl⟩ | ⟨g, o, c, rfl, _, hF, hg, hc⟩
  · exact ⟨a, c, rfl, fun i x hx => by simp at hx⟩
  · exact ⟨_, c, rfl, fun i x hx => ⟨g, o, rfl, hF, hg, hc i x hx⟩⟩
theorem all_take {ns : List (List UInt8)} {j : Nat} {x : List UInt8} (h : ns[j]? = some x) : (ns.take (j + 1)).all Js.utf = ((ns.take j).all Js.utf && Js.utf x) := by
  rw [List.take_add_one, h, List.all_append]
  simp
set_option maxRecDepth 100000 in
set_option maxHeartbeats 2000000 in
theorem idxNames_any (F : Nat → Prop) (ns : List (List UInt8)) (nv : Value) (w : World) (hn : NsAt w F nv ns) (hl : ns.length ≤ 140737488355328) (hx : ∀ x ∈ ns, x.length ≤ 140737488355328) (hT : Tb w) :
    Calls Tryd.prog 96 #[nv, .func (.func 88) #[] #[]] w fun e w' => (∃ r : Int, e = .returned (.int .i64 r) ∧ decide (r < 0) = ns.all Js.utf) ∧ Below w.heap.size w w' := by
  have HT := Lib.hid hT
  obtain ⟨N, hN⟩ : ∃ N, N = ns.length := ⟨_, rfl⟩
  have HN := Lib.hid hN
  have HX := Lib.hid hx
  obtain ⟨a, c, rfl, hcell⟩ := hn.sl
  rw [← hN]
  rw [← hN] at hl
  have HC := Lib.hid hcell
  clear hT hx hcell hN hn
  go_enter Tryd.func96, Tryd.ntmps96
  go_wp2_with fail
  go_loopw [8] (fun iv wr => ∃ j : Nat, j ≤ N ∧ iv = .int .i64 j ∧ Hid ((ns.take j).all Js.utf = true) ∧ Hid (Below w.heap.size w wr)) (fun iv _ => N - (intOf iv).toNat)
  case atStart => exact ⟨0, by omega, rfl, Lib.hid rfl, Lib.hid (Below.refl _ _)⟩
  case round =>
    obtain ⟨j, hj, rfl, ha, hb⟩ := hrel
    by_cases hjN : j < N
    · obtain ⟨x, hx⟩ : ∃ x, ns[j]? = some x := by
        have : j < ns.length := by rw [← HN.out]; exact hjN
        exact ⟨ns[j], List.getElem?_eq_getElem this⟩
      obtain ⟨g, o, rfl, _, hg, hc⟩ := HC.out j x hx
      have hcw : wr.cell? ⟨g, o + j, none⟩ = some (.string (bs x)) := by rw [World.cell?_of_block (w := w) (a := ⟨g, o + j, none⟩) (hb.out.block g hg)]; exact hc
      have CA := Lib.hid (areNames1_any x (HX.out x (List.mem_of_getElem? hx)) wr (HT.out.below hb.out))
      have hat := Lib.hid (all_take hx)
      generalize bs x = s at *
      cases hu : Js.utf x with
      | true =>
        rw [hu] at CA hat
        clear hx hc hu HC
        go_wp2_with (first | (go_at_call 88; refine CA.out.mono ?_; rintro e1 w2 ⟨rfl, hb2⟩; go_frame))
        go_roundw
        case rel => exact ⟨j + 1, by omega, by go_num, Lib.hid (by rw [hat.out, ha.out]; rfl), Lib.hid (hb.out.trans (hb2.mono hb.out.size))⟩
        case measure => simp [intOf]; omega
      | false =>
        rw [hu] at CA
        have hall : Hid (ns.all Js.utf = false) := Lib.hid (by
          rw [← Bool.not_eq_true, List.all_eq_true]
          intro h
          rw [h x (List.mem_of_getElem? hx)] at hu
          cases hu)
        clear hx hc hu HC
        go_wp2_with (first | (go_at_call 88; refine CA.out.mono ?_; rintro e1 w2 ⟨rfl, hb2⟩; go_frame))
        go_ret
        exact ⟨⟨_, rfl, by rw [hall.out, decide_eq_false (by omega)]⟩, hb.out.trans (hb2.mono hb.out.size)⟩
    · obtain rfl : j = N := by omega
      have hall : Hid (ns.all Js.utf = true) := Lib.hid (by have := ha.out; rwa [List.take_of_length_le (by rw [← HN.out]; exact Nat.le_refl _)] at this)
      clear HC
      go_wp2_with fail
      go_ret
      exact ⟨⟨_, rfl, by rw [hall.out]; rfl⟩, hb.out⟩
theorem hasNames_any (F : Nat → Prop) (ns : List (List UInt8)) (nv : Value) (w : World) (hn : NsAt w F nv ns) (hl : ns.length ≤ 140737488355328) (hx : ∀ x ∈ ns, x.length ≤ 140737488355328) (hT : Tb w) :
    Calls Tryd.prog 87 #[nv, .func (.func 88) #[] #[]] w fun e w' => e = .returned (.bool (!ns.all Js.utf)) ∧ Below w.heap.size w w' := by
  have C := Lib.hid (idxNames_any F ns nv w hn hl hx hT)
  generalize ns.all Js.utf = r at *
  clear hn hl hx hT
  go_enter Tryd.func87, Tryd.ntmps87
  go_wp2_with (first | (go_at_call 96; refine C.out.mono ?_; rintro e1 w2 ⟨⟨i, rfl, hi⟩, hb2⟩; go_frame))
  go_ret
  refine ⟨?_, hb2⟩
  rw [← hi]
  congr 2
  by_cases h : i < 0
  · rw [decide_eq_true h, decide_eq_false (by omega)]; rfl
  · rw [decide_eq_false h, decide_eq_true (by omega)]; rfl
theorem areNames_any (F : Nat → Prop) (ns : List (List UInt8)) (nv : Value) (m : Nat) (w : World) (hn : NsAt w F nv ns) (hl : ns.length ≤ 140737488355328) (hx : ∀ x ∈ ns, x.length ≤ 140737488355328) (hT : Tb w) :
    Calls Tryd.prog 67 #[nv, .int .i64 m] w fun e w' => e = .returned (.bool (Js.nm ns m)) ∧ Below w.heap.size w w' := by
  have C := Lib.hid (hasNames_any F ns nv w hn hl hx hT)
  unfold Js.nm
  generalize ns.all Js.utf = r at *
  obtain ⟨a, c, rfl, _⟩ := hn.sl
  generalize ns.length = N at *
  have hnot : ∀ (x : Bool) (w : World), (Op.unary .not (.bool x)).run Tryd.prog w = .ok (.bool (!x)) w := fun _ _ => rfl
  clear hn hx hT
  by_cases hm : N = m
  · subst hm
    go_enter Tryd.func67, Tryd.ntmps67
    go_wp2_with (first | (go_at_call 87; refine C.out.mono ?_; rintro e1 w2 ⟨rfl, hb2⟩; go_frame))
    go_ret
    exact ⟨by simp, hb2⟩
  · have hm2 : ¬ ((N : Int) = (m : Int)) := by omega
    go_enter Tryd.func67, Tryd.ntmps67
    go_wp2_with fail
    go_ret
    exact ⟨by simp [hm], Below.refl _ _⟩
end Go.Proofs.YthfnlnhehececaaDoor
