/- The walk of a law: a target is taken apart as the document says, and what is handed over is its owner's. -/
import Derived.Test.YtiodbkloecpdcaaUSame
import Derived.Test.YtiodbkloecpdcaaURefT
namespace Go.Proofs.Ytiodbkloecpdcaa
open Go.RowKit

theorem own_shape {w : World} {B : Nat} {v : Value} {l : List Ur.Pr} (h : w.ownsRow B 32 2 v l.length (prs l)) : (v = .slice none 0 0 ∧ l.length = 0) ∨ ∃ g cap L, v = .slice (some ⟨g, 0, none⟩) l.length cap ∧ B ≤ g ∧ w.heap[g]? = some (.cells (L : List Value).toArray 32 (0, 0)) ∧ 2 * l.length ≤ L.length ∧ l.length ≤ cap := by
  rcases h.2 with ⟨hv, h0⟩ | ⟨g, cap, cur, hv, hB, hg, hc, hcm, hcs, hr⟩
  · exact .inl ⟨hv, h0⟩
  · exact .inr ⟨g, cap, cur.toList, hv, hB, by simpa using hg, by simp [hcs]; omega, hc⟩
theorem qry_len : ∀ (L : List (Nat × List UInt8)) (l : List Ur.Pr), Ur.qry L = .ok l → l.length ≤ L.length := by
  intro L
  induction L with
  | nil => intro l h; cases h; simp
  | cons c r ih =>
    intro l h
    obtain ⟨i, t⟩ := c
    rw [Ur.qry] at h
    split at h
    · have := ih l h; simp; omega
    · split at h
      · cases h
      · rename_i n v _
        cases hq : Ur.qry r with
        | bad k => rw [hq] at h; cases h
        | ok m =>
          rw [hq] at h
          simp only [Ur.Qry.pre, Ur.Qry.ok.injEq] at h
          have := ih m hq
          rw [← h]
          simp; omega
theorem cuts_len (d : UInt8) (n : Nat) : ∀ (i : Nat) (l : List UInt8), (Ur.cuts d n i l).length = n := by
  induction n with
  | zero => intro i l; rfl
  | succ n ih => intro i l; rw [Ur.cuts, List.length_cons, ih]
theorem target_len (S : List UInt8) (p : List UInt8) (l : List Ur.Pr) (h : Ur.target S = .ok p l) : l.length ≤ S.length + 1 := by
  unfold Ur.target at h
  split at h
  · cases h
  · split at h
    · cases h
    · split at h
      · cases h
      · split at h
        · cases h
        · rename_i hq
          cases h
          have := qry_len _ _ hq
          rw [cuts_len] at this
          have hc := List.count_le_length (a := (38 : UInt8)) (l := S.drop (Ur.len (· == 63) S + 1))
          rw [List.length_drop] at hc
          omega
set_option maxRecDepth 100000 in
set_option maxHeartbeats 8000000 in
theorem Targets_true (S : List UInt8) (hS : S.length ≤ 549755813888) (w : World) (hm0 : Mx w) : Calls Try.prog 7 #[.string (bs S)] w fun e w' => e = .returned (.bool true) ∧ Below w.heap.size w w' := by
  have X := Lib.hid (fun v hm => examples_true v hm)
  have V := Lib.hid (fun v : World => vTarget_any S (by omega) v)
  have U := Lib.hid (fun v : World => Target_any S (by omega) v)
  have HM := Lib.hid hm0
  have HB := Lib.hid (Below.refl w.heap.size w)
  clear hm0
  cases hR : Ur.target S with
  | bad er k =>
    rw [hR] at U V
    simp only [Tg] at U V
    have SM := Lib.hid (fun v : World => same_any (.slice none 0 0) (.slice none 0 0) [] [] (by decide) v (.inl ⟨rfl, rfl⟩) (.inl ⟨rfl, rfl⟩))
    simp only [decide_true] at SM
    clear hR
    generalize bs [] = y at *
    generalize bs S = s at *
    generalize (er : Int) = E at *
    generalize (k : Int) = K at *
    go_enter Try.func7, Try.ntmps7
    go_wp2_with (first | (go_at_call 10; refine (X.out _ HM.out).mono ?_; rintro e w1 ⟨rfl, hb1⟩; replace HB := Lib.hid (bthen HB.out hb1); clear hb1) | (go_at_call 20; refine (V.out _).mono ?_; rintro e w2 ⟨rfl, hb2⟩; replace HB := Lib.hid (bthen HB.out hb2); clear hb2))
    go_loopw [8] (fun tv wr => ∃ t : Nat, t ≤ 2 ∧ tv = .int .i64 t ∧ Hid (Below w.heap.size w wr)) (fun tv _ => 2 - (intOf tv).toNat)
    case atStart => exact ⟨0, by omega, rfl, HB⟩
    case round =>
      clear HB
      obtain ⟨t, ht, rfl, HB⟩ := hrel
      by_cases hlt : t < 2
      · go_wp2_with (first | (go_at_call 14; refine (U.out _).mono ?_; rintro e w3 ⟨rfl, hb3⟩; replace HB := Lib.hid (bthen HB.out hb3); clear hb3) | (go_at_call 21; refine (SM.out _).mono ?_; rintro e w4 ⟨rfl, hb4⟩; replace HB := Lib.hid (bthen HB.out hb4); clear hb4))
        go_loopw [14] (fun iv wx => iv = .int .i64 0 ∧ wx = w4) (fun iv _ => 0)
        case atStart => exact ⟨rfl, rfl⟩
        case round =>
          obtain ⟨rfl, hw⟩ := hrel
          obtain rfl := hw.symm
          clear hw
          go_wp2_with fail
          go_roundw
          case rel => exact ⟨t + 1, by omega, by go_num, HB⟩
          case measure => simp [intOf]; omega
      · go_wp2_with fail
        go_ret
        exact ⟨rfl, HB.out⟩
  | ok p l =>
    rw [hR] at U V
    simp only [Tg] at U V
    have hll := target_len S p l hR
    have SM := Lib.hid (fun (a b : Value) (v : World) h1 h2 => same_any a b l l (by omega) v h1 h2)
    simp only [decide_true] at SM
    clear hR
    generalize bs p = y at *
    generalize bs S = s at *
    obtain ⟨n, hn⟩ : ∃ n, n = l.length := ⟨_, rfl⟩
    have HN := Lib.hid hn
    have hnb : n ≤ 1099511627776 := by omega
    clear hn hll
    go_enter Try.func7, Try.ntmps7
    go_wp2_with (first | (go_at_call 10; refine (X.out _ HM.out).mono ?_; rintro e w1 ⟨rfl, hb1⟩; replace HB := Lib.hid (bthen HB.out hb1); clear hb1) | (go_at_call 20; refine (V.out _).mono ?_; rintro e w2 ⟨⟨v2, rfl, ho2⟩, hb2⟩; replace HB := Lib.hid (bthen HB.out hb2); have HP := Lib.hid (pairsAt_self ho2 rfl (Nat.le_refl _)); clear hb2 ho2))
    have HB2 := Lib.hid (Below.refl w2.heap.size w2)
    have hww := HB.out.size
    go_loopw [8] (fun tv wr => ∃ t : Nat, t ≤ 2 ∧ tv = .int .i64 t ∧ Hid (Below w2.heap.size w2 wr)) (fun tv _ => 2 - (intOf tv).toNat)
    case atStart => exact ⟨0, by omega, rfl, HB2⟩
    case round =>
      clear HB2
      obtain ⟨t, ht, rfl, HB2⟩ := hrel
      by_cases hlt : t < 2
      · go_wp2_with (first | (go_at_call 14; refine (U.out _).mono ?_; rintro e w3 ⟨⟨v3, rfl, ho3⟩, hb3⟩; have HB3 := Lib.hid (bthen HB2.out hb3); have HO3 := Lib.hid (own_base ho3 HB2.out.size); have hs3 := hb3.size; clear hb3 ho3) | (go_at_call 21; refine (SM.out _ _ _ (pairsAt_self HO3.out rfl (Nat.le_refl _)) ((HP.out.below HB3.out).elim .inl (fun ⟨b, off, cap, e, hb', hr⟩ => .inr ⟨b, off, cap, e, Nat.lt_of_lt_of_le hb' HB3.out.size, hr⟩))).mono ?_; rintro e w4 ⟨rfl, hb4⟩; have HB4 := Lib.hid (bthen HB3.out hb4); have HO4 := Lib.hid (own_below HO3.out hb4); clear hb4))
        rcases own_shape HO4.out with ⟨hv, h0⟩ | ⟨g, cap, L, hv, hg2, hgh, hL, hcap⟩
        · subst hv
          go_loopw [14] (fun iv wx => iv = .int .i64 0 ∧ wx = w4) (fun iv _ => 0)
          case atStart => exact ⟨rfl, rfl⟩
          case round =>
            obtain ⟨rfl, hw⟩ := hrel
            obtain rfl := hw.symm
            clear hw h0
            go_wp2_with fail
            go_roundw
            case rel => exact ⟨t + 1, by omega, by go_num, HB4⟩
            case measure => simp [intOf]; omega
        · rw [← HN.out] at hv hL hcap
          subst hv
          have HG0 := Lib.hid (show ∃ L : List Value, w4.heap[g]? = some (.cells L.toArray 32 (0, 0)) ∧ 2 * n ≤ L.length from ⟨L, hgh, hL⟩)
          clear hgh hL HO4 HO3
          go_loopw [14] (fun iv wx => ∃ i : Nat, i ≤ n ∧ iv = .int .i64 i ∧ Hid (∃ L : List Value, wx.heap[g]? = some (.cells L.toArray 32 (0, 0)) ∧ 2 * n ≤ L.length) ∧ Hid (Below w2.heap.size w2 wx)) (fun iv _ => n - (intOf iv).toNat)
          case atStart => exact ⟨0, by omega, rfl, HG0, HB4⟩
          case round =>
            clear HG0 HB4
            obtain ⟨i, hi, rfl, HG, HB5⟩ := hrel
            by_cases hin : i < n
            · obtain ⟨L, hgh, hL⟩ := HG.out
              have l0 : i * 2 < L.length := by omega
              have l1 : i * 2 + 1 < L.length := by omega
              have c0 := cell_of_list hgh (i * 2)
              have c1 := cell_of_list hgh (i * 2 + 1)
              rw [List.getElem?_eq_getElem l0] at c0
              rw [List.getElem?_eq_getElem l1] at c1
              have z0 := not_frozen hgh (i * 2)
              have z1 := not_frozen hgh (i * 2 + 1)
              generalize L[i * 2]'l0 = k0 at *
              generalize L[i * 2 + 1]'l1 = k1 at *
              have HGH := Lib.hid hgh
              clear hgh l0 l1
              go_wp2_with fail
              refine ⟨⟨i + 1, by omega, by go_num, Lib.hid ⟨_, set_list (set_list HGH.out (i * 2) _) (i * 2 + 1) _, by rw [List.length_set, List.length_set]; exact hL⟩, Lib.hid ((HB5.out.setCell (p := ⟨g, i * 2, none⟩) hg2 _).setCell (p := ⟨g, i * 2 + 1, none⟩) hg2 _)⟩, ?_⟩
              simp [intOf]; omega
            · go_wp2_with fail
              go_roundw
              case rel => exact ⟨t + 1, by omega, by go_num, HB5⟩
              case measure => simp [intOf]; omega
      · go_wp2_with fail
        go_ret
        exact ⟨rfl, bthen HB.out HB2.out⟩
end Go.Proofs.Ytiodbkloecpdcaa
