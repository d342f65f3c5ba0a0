/- The document's own answer: a moment taken apart. -/
import Derived.Test.YtllboegemooeoaaYRef1
import Derived.Handy
namespace Go.Proofs.Ytllboegemooeoaa
open Go.RowKit

def wh (y m d a b c e : Int) : List Value := [.int .i64 y, .int .i64 m, .int .i64 d, .int .i64 a, .int .i64 b, .int .i64 c, .int .i64 e]
/-- What a moment taken apart is built in. -/
structure WhAt (w0 w : World) (y m d a b c e : Int) : Prop where
  r : w.heap[w0.heap.size]? = some (.cells (wh 0 0 0 0 0 0 0).toArray 34 (0, 0))
  x : w.heap[w0.heap.size + 1]? = some (.cells (wh y m d a b c e).toArray 34 (0, 0))
  b : Below w0.heap.size w0 w
theorem WhAt.start (w0 : World) (y m d a b c e : Int) : WhAt w0 ((w0.alloc (.cells (wh 0 0 0 0 0 0 0).toArray 34)).alloc (.cells (wh y m d a b c e).toArray 34)) y m d a b c e :=
  ⟨by rw [heap_alloc_old (r := w0.heap.size) _ _ (by simp)]; exact heap_alloc_new _ _, by rw [show w0.heap.size + 1 = (w0.alloc (.cells (wh 0 0 0 0 0 0 0).toArray 34)).heap.size by simp]; exact heap_alloc_new _ _,
    ((Below.refl _ _).alloc (Nat.le_refl _) _).alloc (by simp) _⟩
theorem WhAt.cell {w0 w : World} {y m d a b c e : Int} (h : WhAt w0 w y m d a b c e) (j : Nat) (v : Value) (hv : (wh y m d a b c e)[j]? = some v) : w.cell? ⟨w0.heap.size + 1, j, none⟩ = some v := by rw [cell_of_list h.x, hv]
theorem WhAt.free {w0 w : World} {y m d a b c e : Int} (h : WhAt w0 w y m d a b c e) (j : Nat) : w.frozen? ⟨w0.heap.size + 1, j, none⟩ = false := free_of_list h.x j
theorem WhAt.set {w0 w : World} {y m d a b c e : Int} (h : WhAt w0 w y m d a b c e) (j : Nat) (v : Value) (y' m' d' a' b' c' e' : Int) (hv : (wh y m d a b c e).set j v = wh y' m' d' a' b' c' e') : WhAt w0 (w.setCell ⟨w0.heap.size + 1, j, none⟩ v) y' m' d' a' b' c' e' :=
  ⟨by rw [heap_setCell_other _ _ _ _ (by show w0.heap.size ≠ w0.heap.size + 1; omega)]; exact h.r, by rw [← hv]; exact set_list h.x j v, h.b.setCell (by show w0.heap.size ≤ w0.heap.size + 1; omega) v⟩
set_option maxRecDepth 100000 in
set_option maxHeartbeats 2000000 in
theorem qApart_gen (t n Y M d : Nat) (ht : t < 253402300800) (hn : (t : Int) / 86400 = (n : Int)) (hd : Mo.IsD n Y M d) (w : World) : Calls Try.prog 18 #[.int .i64 t] w fun e w' => e = .returned (.agg #[.int .i64 Y, .int .i64 M, .int .i64 d, .int .i64 (((n : Int) + 4) % 7), .int .i64 ((t : Int) / 3600 % 24), .int .i64 ((t : Int) / 60 % 60), .int .i64 ((t : Int) % 60)]) ∧ Below w.heap.size w w' := by
  have y2 := hd.y2; have m2 := hd.m2; have hnl := hd.lt
  have H := Lib.hid hd
  have hys := fun (k : Nat) (_ : 1970 ≤ k) (h2 : k ≤ 9999) => qdays_y k (by omega)
  have hms := fun (k : Nat) (h1 : 1 ≤ k) (h2 : k ≤ 12) => qdays_m Y (by omega) k h1 h2
  have HYS := Lib.hid hys; have HMS := Lib.hid hms
  clear hd hys hms
  go_enter Try.func18, Try.ntmps18
  go_wp2_with fail
  have hw := WhAt.start w 1970 1 0 (((n : Int) + 4) % 7) ((t : Int) / 3600 % 24) ((t : Int) / 60 % 60) ((t : Int) % 60)
  unfold wh at hw
  obtain ⟨w1, hw1⟩ : ∃ x, x = ((w.alloc (.cells #[.int .i64 0, .int .i64 0, .int .i64 0, .int .i64 0, .int .i64 0, .int .i64 0, .int .i64 0] 34)).alloc (.cells #[.int .i64 1970, .int .i64 1, .int .i64 0, .int .i64 (((n : Int) + 4) % 7), .int .i64 ((t : Int) / 3600 % 24), .int .i64 ((t : Int) / 60 % 60), .int .i64 ((t : Int) % 60)] 34)) := ⟨_, rfl⟩
  rw [← hw1] at hw ⊢
  clear hw1
  obtain ⟨q4, e4⟩ : ∃ x : Int, x = ((n : Int) + 4) % 7 := ⟨_, rfl⟩
  obtain ⟨q5, e5⟩ : ∃ x : Int, x = (t : Int) / 3600 % 24 := ⟨_, rfl⟩
  obtain ⟨q6, e6⟩ : ∃ x : Int, x = (t : Int) / 60 % 60 := ⟨_, rfl⟩
  obtain ⟨q7, e7⟩ : ∃ x : Int, x = (t : Int) % 60 := ⟨_, rfl⟩
  rw [← e4, ← e5, ← e6, ← e7] at hw ⊢
  have E4 := Lib.hid e4; have E5 := Lib.hid e5; have E6 := Lib.hid e6; have E7 := Lib.hid e7
  clear e4 e5 e6 e7 hn
  have HW := Lib.hid hw
  clear hw
  go_loopw [3] (fun s wr => ∃ (k g : Nat), 1970 ≤ k ∧ k ≤ Y ∧ s = .int .i64 g ∧ Hid (g + Mo.D k = n) ∧ g ≤ 2932897 ∧ Hid (WhAt w wr k 1 0 q4 q5 q6 q7)) (fun s _ => (intOf s).toNat)
  case atStart => exact ⟨1970, n, by omega, H.out.y1, rfl, Lib.hid (by rw [Mo.D_first]; rfl), by omega, HW⟩
  case round =>
    obtain ⟨k, g, hk1, hk2, rfl, hg, hg2, hW⟩ := hrel
    have c0 := hW.out.cell 0 _ rfl
    have c1 := hW.out.cell 1 _ rfl
    have f0 := hW.out.free 0
    have hc := HYS.out k hk1 (by omega)
    have hs := Mo.D_succ k hk1
    have hyl : Mo.yl k ≤ 366 ∧ 365 ≤ Mo.yl k := by unfold Mo.yl; split <;> omega
    have hor : (g < Mo.yl k → k = Y) ∧ (Mo.yl k ≤ g → k < Y) := by
      have h1 := hg.out; have h2 := H.out.year
      constructor
      · intro hlt
        by_cases h7 : k < Y
        · have := Mo.D_le (a := k + 1) (b := Y) (by omega) (by omega)
          omega
        · omega
      · intro hge
        by_cases h7 : k = Y
        · subst h7; omega
        · omega
    obtain ⟨x, hx⟩ : ∃ x, x = Mo.yl k := ⟨_, rfl⟩
    rw [← hx] at hc hs hyl hor
    have HC := Lib.hid hc; have HSS := Lib.hid hs
    clear hc hs hx
    by_cases hlt : g < x
    · obtain rfl := hor.1 hlt
      clear hor
      have nb : decide (x ≤ g) = false := decide_eq_false (by omega)
      have nb' : decide ((x : Int) ≤ (g : Int)) = false := decide_eq_false (by omega)
      go_wp2_with (first | (go_at_call 31; refine (HC.out _).mono ?_; rintro e w' ⟨rfl, rfl⟩))
      clear c0 c1 f0
      go_loopw [3] (fun s wr => ∃ (j g : Nat), 1 ≤ j ∧ j ≤ M ∧ s = .int .i64 g ∧ Hid (g + Mo.D k + Mo.mm k j = n) ∧ g ≤ 366 ∧ Hid (WhAt w wr k j 0 q4 q5 q6 q7)) (fun s _ => (intOf s).toNat)
      case atStart => exact ⟨1, g, by omega, H.out.m1, rfl, Lib.hid (by rw [Mo.mm_one]; have := hg.out; omega), by omega, hW⟩
      case round =>
        obtain ⟨j, g', hj1, hj2, rfl, hg', hg2', hW'⟩ := hrel
        have c0 := hW'.out.cell 0 _ rfl
        have c1 := hW'.out.cell 1 _ rfl
        have f1 := hW'.out.free 1
        have f2 := hW'.out.free 2
        have hc := HMS.out j hj1 (by omega)
        have hml := Mo.ml_le k j
        have hmp := Mo.ml_pos k j hj1 (by omega)
        have hs : Mo.mm k (j + 1) = Mo.mm k j + Mo.ml k j := rfl
        have hor : (g' < Mo.ml k j → j = M ∧ g' + 1 = d) ∧ (Mo.ml k j ≤ g' → j < M) := by
          have h1 := hg'.out; have h2 := H.out.year; have h4 := H.out.n
          have h5 := H.out.d1; have h6 := H.out.d2
          constructor
          · intro hlt
            have h8 : j = M := by
              by_cases h7 : j < M
              · have := Mo.mm_le k (a := j + 1) (b := M) (by omega)
                rw [Mo.mm_succ] at this
                omega
              · omega
            subst h8
            exact ⟨rfl, by omega⟩
          · intro hge
            by_cases h7 : j = M
            · subst h7; omega
            · omega
        obtain ⟨x', hx'⟩ : ∃ x, x = Mo.ml k j := ⟨_, rfl⟩
        rw [← hx'] at hc hs hml hmp hor
        have HC' := Lib.hid hc; have HS' := Lib.hid hs
        clear hc hs hx'
        by_cases hlt' : g' < x'
        · obtain ⟨rfl, hd'⟩ := hor.1 hlt'
          subst hd'
          clear hor
          have c2 := hW'.out.cell 2 _ rfl
          have c3 := hW'.out.cell 3 _ rfl
          have c4 := hW'.out.cell 4 _ rfl
          have c5 := hW'.out.cell 5 _ rfl
          have c6 := hW'.out.cell 6 _ rfl
          have r0 : wr.cell? ⟨w.heap.size, 0, none⟩ = _ := cell_of_list hW'.out.r 0
          have r1 : wr.cell? ⟨w.heap.size, 1, none⟩ = _ := cell_of_list hW'.out.r 1
          have r2 : wr.cell? ⟨w.heap.size, 2, none⟩ = _ := cell_of_list hW'.out.r 2
          have r3 : wr.cell? ⟨w.heap.size, 3, none⟩ = _ := cell_of_list hW'.out.r 3
          have r4 : wr.cell? ⟨w.heap.size, 4, none⟩ = _ := cell_of_list hW'.out.r 4
          have r5 : wr.cell? ⟨w.heap.size, 5, none⟩ = _ := cell_of_list hW'.out.r 5
          have r6 : wr.cell? ⟨w.heap.size, 6, none⟩ = _ := cell_of_list hW'.out.r 6
          simp only [wh, List.getElem?_cons_zero, List.getElem?_cons_succ] at r0 r1 r2 r3 r4 r5 r6
          have g0 : wr.frozen? ⟨w.heap.size, 0, none⟩ = false := free_of_list hW'.out.r 0
          have g1 : wr.frozen? ⟨w.heap.size, 1, none⟩ = false := free_of_list hW'.out.r 1
          have g2 : wr.frozen? ⟨w.heap.size, 2, none⟩ = false := free_of_list hW'.out.r 2
          have g3 : wr.frozen? ⟨w.heap.size, 3, none⟩ = false := free_of_list hW'.out.r 3
          have g4 : wr.frozen? ⟨w.heap.size, 4, none⟩ = false := free_of_list hW'.out.r 4
          have g5 : wr.frozen? ⟨w.heap.size, 5, none⟩ = false := free_of_list hW'.out.r 5
          have g6 : wr.frozen? ⟨w.heap.size, 6, none⟩ = false := free_of_list hW'.out.r 6
          go_wp2_with (first | (go_at_call 31; refine (HC'.out _).mono ?_; rintro e w' ⟨rfl, rfl⟩))
          have h0 : (wr.setCell ⟨w.heap.size + 1, 2, none⟩ (.int .i64 ((g' : Int) + 1))).heap[w.heap.size]? = some (.cells (wh 0 0 0 0 0 0 0).toArray 34 (0, 0)) := by rw [heap_setCell_other _ _ _ _ (by show w.heap.size ≠ w.heap.size + 1; omega)]; exact hW'.out.r
          have hr := set_list (set_list (set_list (set_list (set_list (set_list (set_list h0 0 (.int .i64 (k : Int))) 1 (.int .i64 (j : Int))) 2 (.int .i64 ((g' : Int) + 1))) 3 (.int .i64 q4)) 4 (.int .i64 q5)) 5 (.int .i64 q6)) 6 (.int .i64 q7)
          try simp only [Exit.inBlock, Exit.then]
          refine bodyPost_ret (results_mid rfl _ _ w.heap.size 0 _ _ rfl (range_of_list hr) Try.underlying34 rfl (by kernel_rfl)) rfl ?_
          refine ⟨by rw [← E4.out, ← E5.out, ← E6.out, ← E7.out]; rfl, ?_⟩
          repeat (refine Below.setCell ?_ ?_ _; rotate_left; (first | exact Nat.le_refl _ | (show w.heap.size ≤ w.heap.size + 1; omega)))
          exact hW'.out.b
        · have hjM := hor.2 (by omega)
          clear hor
          go_wp2_with (first | (go_at_call 31; refine (HC'.out _).mono ?_; rintro e w' ⟨rfl, rfl⟩))
          go_roundw
          case rel => exact ⟨j + 1, g' - x', by omega, by omega, by congr 1; omega, Lib.hid (by rw [HS'.out]; have := hg'.out; omega), by omega, Lib.hid (hW'.out.set 1 _ _ _ _ _ _ _ _ rfl)⟩
          case measure => simp [intOf]; omega
    · have hkY := hor.2 (by omega)
      clear hor
      go_wp2_with (first | (go_at_call 31; refine (HC.out _).mono ?_; rintro e w' ⟨rfl, rfl⟩))
      go_roundw
      case rel => exact ⟨k + 1, g - x, by omega, by omega, by congr 1; omega, Lib.hid (by rw [HSS.out]; have := hg.out; omega), by omega, Lib.hid (hW.out.set 0 _ _ _ _ _ _ _ _ rfl)⟩
      case measure => simp [intOf]; omega
theorem qApart_any (t : Nat) (ht : t < 253402300800) (w : World) : Calls Try.prog 18 #[.int .i64 t] w fun e w' => e = .returned (.agg #[.int .i64 (Mo.dy (t / 86400)), .int .i64 (Mo.dm (t / 86400)), .int .i64 (Mo.dd (t / 86400)), .int .i64 ((t / 86400 + 4) % 7 : Nat), .int .i64 (t / 3600 % 24 : Nat), .int .i64 (t / 60 % 60 : Nat), .int .i64 (t % 60 : Nat)]) ∧ Below w.heap.size w w' := by
  have h := qApart_gen t (t / 86400) _ _ _ ht (by omega) (Mo.dt_is (t / 86400) (by omega)) w
  rw [show ((t : Int) / 3600 % 24) = ((t / 3600 % 24 : Nat) : Int) by omega, show ((t : Int) / 60 % 60) = ((t / 60 % 60 : Nat) : Int) by omega, show ((t : Int) % 60) = ((t % 60 : Nat) : Int) by omega, show ((((t / 86400 : Nat) : Int) + 4) % 7) = (((t / 86400 + 4) % 7 : Nat) : Int) by omega] at h
  exact h
end Go.Proofs.Ytllboegemooeoaa
