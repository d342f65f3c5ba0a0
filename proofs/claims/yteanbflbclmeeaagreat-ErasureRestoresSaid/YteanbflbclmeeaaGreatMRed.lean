/- The walks of bringing rows to steps. -/
import Derived.Test.YteanbflbclmeeaaGreatMTab
namespace Go.Proofs.YteanbflbclmeeaaGreat
open Go.RowKit

theorem u8_neB {x : UInt8} (h : x ≠ 0) : ((x.toNat : Int) != 0) = true := by unfold bne; rw [u8_ne0 h]; rfl
theorem u8_eqB {x : UInt8} (h : x = 0) : ((x.toNat : Int) != 0) = false := by unfold bne; rw [u8_eq0 h]; rfl
/-- What lead answers. -/
def leadV (M : Mat) (r col d : Nat) : Value := if lead M r col d < r then .tuple #[.int .i64 (lead M r col d), .bool true] else .tuple #[.int .i64 0, .bool false]
set_option maxRecDepth 20000 in
set_option maxHeartbeats 1000000 in
theorem lead_any (g r c N d col : Nat) (M : Mat) (hN : r * c = N) (hmax : N ≤ 1000000) (hc0 : 1 ≤ c) (hd : d ≤ r) (hcol : col < c) (w : World) (h : Tab g M r c w) :
    Calls Tryz.prog 76 #[tabV g r c N, .int .i64 d, .int .i64 col] w fun e w' => e = .returned (leadV M r col d) ∧ Below w.heap.size w w' := by
  have hb := BoxS.of_alloc (N := N) h
  have hbb : Below w.heap.size w (w.alloc (.cells (tabRow g r c N).toArray 104)) := (Below.refl _ _).alloc (Nat.le_refl _) _
  have hrm : r ≤ N := by rw [← hN]; exact Nat.le_mul_of_pos_right r hc0
  have HB := Lib.hid (And.intro hb hbb)
  have HN := Lib.hid hN
  clear hb hbb hN h
  unfold tabV
  go_enter Tryz.func76, Tryz.ntmps76
  go_wp2_with fail
  go_loopw [8] (fun iv wr => ∃ i : Nat, d ≤ i ∧ i ≤ r ∧ iv = .int .i64 i ∧ (∀ k, d ≤ k → k < i → M k col = 0) ∧ (BoxS w.heap.size g r c N M w wr ∧ Below w.heap.size w wr)) (fun iv _ => r - (intOf iv).toNat)
  case atStart => exact ⟨d, Nat.le_refl _, hd, rfl, fun k h1 h2 => by omega, HB.out⟩
  case round =>
    clear HB
    obtain ⟨i, hi0, hi, rfl, hz, hB⟩ := hrel
    have d0 := hB.1.c0
    have d1 := hB.1.c1
    have d2 := hB.1.c2
    have HZ := Lib.hid hz
    have H1 := Lib.hid hB
    clear hz hB
    by_cases hlt : i < r
    · obtain ⟨A, hA⟩ : ∃ A, i * c = A := ⟨_, rfl⟩
      have fA := row_fits HN.out hA hlt
      have HA := Lib.hid hA
      clear hA
      go_wp2_with fail
      refine (trow_any g r c N i A HA.out fA hmax hc0 _).mono ?_
      rintro e w2 ⟨rfl, hb2⟩
      have H2 := Lib.hid (And.intro (H1.out.1.below hb2) (H1.out.2.trans (hb2.mono H1.out.2.size)))
      have hcell : w2.cell? ⟨g, A + col, none⟩ = some (.int .u8 (M i col).toNat) := by
        have := H2.out.1.tab.src.cell hlt hcol
        rw [Nat.zero_add, HA.out] at this; exact this
      clear d0 d1 d2 hb2
      by_cases hx : M i col = 0
      · have hb := u8_eqB hx
        have HX := Lib.hid hx
        clear hx
        go_wp2_with fail
        go_roundw
        case rel => exact ⟨i + 1, by omega, by omega, by go_num, fun k h1 h2 => by (by_cases hk : k = i; (rw [hk]; exact HX.out); exact HZ.out k h1 (by omega)), H2.out⟩
        case measure => simp [intOf]; omega
      · have hb := u8_neB hx
        have HX : Hid (lead M r col d = i) := Lib.hid (lead_is M hi0 hlt HZ.out hx)
        clear hx
        go_wp2_with fail
        go_ret2
        refine ⟨?_, H2.out.2⟩
        unfold leadV
        rw [HX.out, if_pos hlt]; rfl
    · obtain rfl : i = r := by omega
      have HX : Hid (lead M i col d = i) := Lib.hid (lead_none M hd HZ.out)
      go_wp2_with fail
      go_ret2
      refine ⟨?_, H1.out.2⟩
      unfold leadV
      rw [HX.out, if_neg (Nat.lt_irrefl _)]; rfl
theorem one_rows (d : Nat) (x : UInt8) (M : Mat) : addR d d (xr x 1) M = scaleR d x M := by
  funext a b
  unfold addR setRow scaleR
  by_cases h : a = d
  · rw [if_pos h, if_pos h, h]
    show M d b ^^^ tm (xr x 1) (M d b) = _
    rw [xr_eq, tm_xor', one_tm]
    calc M d b ^^^ (tm x (M d b) ^^^ M d b) = tm x (M d b) ^^^ (M d b ^^^ M d b) := by ac_rfl
      _ = _ := by rw [xor_same, xor_zero]
  · rw [if_neg h, if_neg h]
set_option maxRecDepth 20000 in
set_option maxHeartbeats 1000000 in
theorem makeOne_any (g r c N d col : Nat) (M : Mat) (hN : r * c = N) (hmax : N ≤ 1000000) (hc0 : 1 ≤ c) (hd : d < r) (hcol : col < c) (w : World) (h : Tab g M r c w) :
    Calls Tryz.prog 78 #[tabV g r c N, .int .i64 d, .int .i64 col] w fun e w' => e = .returned (.tuple #[]) ∧ Tab g (scS col d M) r c w' ∧ Kept w.heap.size [g] w w' := by
  obtain ⟨A, hA⟩ : ∃ A, d * c = A := ⟨_, rfl⟩
  have fA := row_fits hN hA hd
  have hb := BoxS.of_alloc (N := N) h
  obtain ⟨S, hS⟩ : ∃ S, S = BoxS w.heap.size g r c N M w := ⟨_, rfl⟩
  have c0 : ∀ u : Of S, u.w.cell? ⟨w.heap.size, 0, none⟩ = some (.int .i64 r) := by rw [hS]; exact fun u => u.ok.c0
  have c1 : ∀ u : Of S, u.w.cell? ⟨w.heap.size, 1, none⟩ = some (.int .i64 c) := by rw [hS]; exact fun u => u.ok.c1
  have c2 : ∀ u : Of S, u.w.cell? ⟨w.heap.size, 2, none⟩ = some (.slice (some ⟨g, 0, none⟩) N N) := by rw [hS]; exact fun u => u.ok.c2
  obtain ⟨x, hx⟩ : ∃ x, x = inv (M d col) := ⟨_, rfl⟩
  have ADD := Lib.hid (fun v hv => add_any g r c N d d (xr x 1) M hN hmax hc0 hd hd v hv)
  have AQ := Lib.hid (fun u : Of S => (Add_any x 1 u.w).mono fun e w' (hh : e = .returned (.int .u8 (xr x 1).toNat) ∧ u.w = w') => (⟨hh.1, u, hh.2.symm⟩ : e = .returned (.int .u8 (xr x 1).toNat) ∧ ∃ u' : Of S, w' = u'.w))
  have d0 := hb.c0
  have d1 := hb.c1
  have d2 := hb.c2
  have HB := Lib.hid hb
  have HS := Lib.hid hS
  have HA := Lib.hid hA
  have HN := Lib.hid hN
  have HX := Lib.hid hx
  haveI : Nonempty (Of S) := ⟨⟨_, by rw [hS]; exact hb⟩⟩
  clear hb hA hN h hS hx
  unfold tabV
  go_enter Tryz.func78, Tryz.ntmps78
  go_wp2_with fail
  refine (trow_any g r c N d A HA.out fA hmax hc0 _).mono ?_
  rintro e w1 ⟨rfl, hb1⟩
  have H1 := Lib.hid (HB.out.below hb1)
  have hcell : w1.cell? ⟨g, A + col, none⟩ = some (.int .u8 (M d col).toNat) := by
    have := H1.out.tab.src.cell hd hcol
    rw [Nat.zero_add, HA.out] at this; exact this
  clear d0 d1 d2 hb1
  go_wp2_with fail
  refine (Inv_any _ _).mono ?_
  rintro e w' ⟨rfl, rfl⟩
  rw [← HX.out]
  go_wp2_with fail
  refine wp_region_S_tail S (by kernel_rfl) rfl (call_same (k := 23) (xs := [.tmp 18, .tmp 19, .tmp 20, .tmp 22]) rfl rfl (by simp)) (by kernel_rfl) (by kernel_rfl) (by kernel_rfl) (by rw [HS.out]; exact H1.out.drew) ?_
  simp only [initL, lastL, List.cons_append, List.nil_append, Oper.mute]
  repeat (go_big_quiet_step (first | (go_at_call 75; exact AQ.out _)))
  refine wpQuiet_nil ?_
  rintro w2 ⟨u2, e2⟩
  have h2 : S w2 := e2 ▸ u2.ok
  rw [HS.out] at h2
  have H2 := Lib.hid h2
  clear e2 u2 h2 c0 c1 c2 this
  refine ends_call 85 #[tabV g r c N, .int .i64 d, .int .i64 d, .int .u8 (xr x 1).toNat] (by unfold tabV; go_simp) (ADD.out _ H2.out.tab) ?_
  rintro e w3 ⟨rfl, hT, hK⟩
  refine ⟨_, rfl, ?_⟩
  have HT := Lib.hid hT
  have HK := Lib.hid hK
  clear hT hK
  go_wp2_with fail
  go_end0
  refine ⟨rfl, ?_, H2.out.old.trans (HK.out.mono H2.out.old.size (fun _ _ h => h))⟩
  unfold scS
  rw [← HX.out, ← one_rows]
  exact HT.out
/-- The first n rows have been cleared. -/
def clearTo (p col n : Nat) (M : Mat) : Mat := fun a b => if a < n ∧ a ≠ p then M a b ^^^ tm (M a col) (M p b) else M a b
theorem clearTo_zero (p col : Nat) (M : Mat) : clearTo p col 0 M = M := by funext a b; unfold clearTo; rw [if_neg (by omega)]
theorem clearTo_self (p col n : Nat) (M : Mat) (b : Nat) : clearTo p col n M p b = M p b := by unfold clearTo; rw [if_neg (fun h => h.2 rfl)]
theorem clearTo_this (p col n : Nat) (M : Mat) (b : Nat) : clearTo p col n M n b = M n b := by unfold clearTo; rw [if_neg (by omega)]
theorem clearTo_pivot (col n : Nat) (M : Mat) : clearTo n col (n + 1) M = clearTo n col n M := by
  funext a b
  unfold clearTo
  by_cases h : a < n ∧ a ≠ n
  · rw [if_pos h, if_pos (by omega)]
  · rw [if_neg h, if_neg (by omega)]
theorem clearTo_none (p col n : Nat) (M : Mat) (h0 : M n col = 0) : clearTo p col (n + 1) M = clearTo p col n M := by
  funext a b
  unfold clearTo
  by_cases h : a = n
  · subst h
    rw [if_neg (show ¬ (a < a ∧ a ≠ p) by omega), h0, zero_tm, xor_zero]; split <;> rfl
  · by_cases h2 : a < n ∧ a ≠ p
    · rw [if_pos h2, if_pos (by omega)]
    · rw [if_neg h2, if_neg (by omega)]
theorem clearTo_add (p col n : Nat) (M : Mat) (h : n ≠ p) : addR n p (M n col) (clearTo p col n M) = clearTo p col (n + 1) M := by
  funext a b
  unfold addR setRow
  by_cases ha : a = n
  · subst ha
    rw [if_pos rfl]
    show clearTo p col a M a b ^^^ tm (M a col) (clearTo p col a M p b) = _
    rw [clearTo_this, clearTo_self]
    unfold clearTo
    rw [if_pos (by omega)]
  · rw [if_neg ha]
    unfold clearTo
    by_cases h2 : a < n ∧ a ≠ p
    · rw [if_pos h2, if_pos (by omega)]
    · rw [if_neg h2, if_neg (by omega)]
theorem clearTo_all (p col r : Nat) {c : Nat} (M : Mat) : Alike r c (clearTo p col r M) (clS col p M) := fun a b ha _ => by
  unfold clearTo clS clearR
  by_cases h : a = p
  · rw [if_neg (fun h2 => h2.2 h), if_pos h]
  · rw [if_pos ⟨ha, h⟩, if_neg h]
theorem nat_ne_B {i p : Nat} (h : i ≠ p) : ((i : Int) != (p : Int)) = true := by simp; omega
theorem nat_eq_B {i p : Nat} (h : i = p) : ((i : Int) != (p : Int)) = false := by simp [h]
set_option maxRecDepth 20000 in
set_option maxHeartbeats 1000000 in
theorem clear_any (g r c N d col : Nat) (M : Mat) (hN : r * c = N) (hmax : N ≤ 1000000) (hc0 : 1 ≤ c) (hd : d < r) (hcol : col < c) (w : World) (h : Tab g M r c w) :
    Calls Tryz.prog 79 #[tabV g r c N, .int .i64 d, .int .i64 col] w fun e w' => e = .returned (.tuple #[]) ∧ Tab g (clS col d M) r c w' ∧ Kept w.heap.size [g] w w' := by
  have hb := BoxS.of_alloc (N := N) h
  have hrm : r ≤ N := by rw [← hN]; exact Nat.le_mul_of_pos_right r hc0
  have ADD := Lib.hid (fun i t M' hi v hv => add_any g r c N i d t M' hN hmax hc0 hi hd v hv)
  have d0 := hb.c0
  have HB := Lib.hid hb
  have HN := Lib.hid hN
  clear hb hN h
  unfold tabV
  go_enter Tryz.func79, Tryz.ntmps79
  go_wp2_with fail
  go_loopw [10] (fun iv wr => ∃ i : Nat, i ≤ r ∧ iv = .int .i64 i ∧ BoxS w.heap.size g r c N (clearTo d col i M) w wr) (fun iv _ => r - (intOf iv).toNat)
  case atStart => exact ⟨0, by omega, rfl, by rw [clearTo_zero]; exact HB.out⟩
  case round =>
    clear HB d0
    obtain ⟨i, hi, rfl, hB⟩ := hrel
    have d0 := hB.c0
    have d1 := hB.c1
    have d2 := hB.c2
    have H1 := Lib.hid hB
    clear hB
    by_cases hlt : i < r
    · obtain ⟨A, hA⟩ : ∃ A, i * c = A := ⟨_, rfl⟩
      have fA := row_fits HN.out hA hlt
      have HA := Lib.hid hA
      clear hA
      go_wp2_with fail
      refine (trow_any g r c N i A HA.out fA hmax hc0 _).mono ?_
      rintro e w2 ⟨rfl, hb2⟩
      have H2 := Lib.hid (H1.out.below hb2)
      have hcell : w2.cell? ⟨g, A + col, none⟩ = some (.int .u8 (M i col).toNat) := by
        have := H2.out.tab.src.cell hlt hcol
        rw [Nat.zero_add, HA.out, clearTo_this] at this; exact this
      have e0 := H2.out.c0
      have e1 := H2.out.c1
      have e2 := H2.out.c2
      clear d0 d1 d2 hb2
      by_cases hp : i = d
      · have hpb := nat_eq_B hp
        have HP := Lib.hid hp
        clear hp
        go_wp2_with fail
        go_roundw
        case rel => exact ⟨i + 1, by omega, by go_num, by have hp := HP.out; subst hp; rw [clearTo_pivot]; exact H2.out⟩
        case measure => simp [intOf]; omega
      · have hpb := nat_ne_B hp
        have HP := Lib.hid hp
        clear hp
        by_cases hx : M i col = 0
        · have hb := u8_eqB hx
          have HX := Lib.hid hx
          clear hx
          go_wp2_with fail
          go_roundw
          case rel => exact ⟨i + 1, by omega, by go_num, by rw [clearTo_none _ _ _ _ HX.out]; exact H2.out⟩
          case measure => simp [intOf]; omega
        · have hb := u8_neB hx
          clear hx
          go_wp2_with fail
          refine (ADD.out i (M i col) (clearTo d col i M) hlt _ H2.out.tab).mono ?_
          rintro e w3 ⟨rfl, hT, hK⟩
          have H3 := Lib.hid (H2.out.change hT hK)
          clear hT hK e0 e1 e2 hcell
          go_wp2_with fail
          go_roundw
          case rel => exact ⟨i + 1, by omega, by go_num, by rw [← clearTo_add _ _ _ _ HP.out]; exact H3.out⟩
          case measure => simp [intOf]; omega
    · obtain rfl : i = r := by omega
      go_wp2_with fail
      go_end0
      exact ⟨rfl, H1.out.tab.alike (clearTo_all _ _ _ _), H1.out.old⟩
set_option maxRecDepth 20000 in
set_option maxHeartbeats 1000000 in
theorem reduce_any (g r c N cols : Nat) (M : Mat) (hN : r * c = N) (hmax : N ≤ 1000000) (hc0 : 1 ≤ c) (hcols : cols ≤ c) (hcm : c ≤ 1000000) (w : World) (h : Tab g M r c w) :
    Calls Tryz.prog 65 #[tabV g r c N, .int .i64 cols] w fun e w' => e = .returned (.int .i64 (red r M cols).2) ∧ Tab g (red r M cols).1 r c w' ∧ Kept w.heap.size [g] w w' := by
  have hb := BoxS.of_alloc (N := N) h
  have HL := Lib.hid (fun d col M' hd hcol v hv => lead_any g r c N d col M' hN hmax hc0 hd hcol v hv)
  have HS := Lib.hid (fun p q M' hp hq v hv => swap_any g r c N p q M' hN hmax hc0 hp hq v hv)
  have HO := Lib.hid (fun d col M' hd hcol v hv => makeOne_any g r c N d col M' hN hmax hc0 hd hcol v hv)
  have HC := Lib.hid (fun d col M' hd hcol v hv => clear_any g r c N d col M' hN hmax hc0 hd hcol v hv)
  have HB := Lib.hid hb
  have HN := Lib.hid hN
  clear hb hN h
  unfold tabV
  go_enter Tryz.func65, Tryz.ntmps65
  go_wp2_with fail
  go_loopw [5, 10] (fun dv iv wr => ∃ i : Nat, i ≤ cols ∧ iv = .int .i64 i ∧ dv = .int .i64 (red r M i).2 ∧ BoxS w.heap.size g r c N (red r M i).1 w wr) (fun _ iv _ => cols - (intOf iv).toNat)
  case atStart => exact ⟨0, by omega, rfl, rfl, HB.out⟩
  case round =>
    clear HB
    obtain ⟨i, hi, rfl, rfl, hB⟩ := hrel
    obtain ⟨M', d, hs⟩ : ∃ M' d, red r M i = (M', d) := ⟨_, _, rfl⟩
    have hst := red_steps r M i
    rw [hs] at hB hst ⊢
    have hler : d ≤ r := hst.ler
    have hle : d ≤ i := hst.le
    have hB : BoxS w.heap.size g r c N M' w wr := hB
    have HE : Hid (∀ x, stepM r i (M', d) = x → red r M (i + 1) = x) := Lib.hid (fun x hx => by rw [red_succ, hs]; exact hx)
    have HS1 := Lib.hid hs
    have d0 := hB.c0
    have d1 := hB.c1
    have d2 := hB.c2
    have H1 := Lib.hid hB
    clear hB hst hs
    show Code.wp _ _ _ _ _
    by_cases hlt : i < cols
    · have hic : i < c := by omega
      obtain ⟨f, hf⟩ : ∃ f, f = lead M' r i d := ⟨_, rfl⟩
      by_cases hfr : f < r
      · have HV : Hid (leadV M' r i d = .tuple #[.int .i64 f, .bool true]) := Lib.hid (by unfold leadV; rw [← hf, if_pos hfr])
        have HX := HE.out _ (stepM_yes (s := (M', d)) (by show lead M' r i d < r; rw [← hf]; exact hfr))
        have HSW : Hid (swS r i (M', d) = swapR d f M') := Lib.hid (by unfold swS; rw [hf])
        have hdr : d < r := by have := (lead_spec M' (col := i) hler).1; omega
        have HXX := Lib.hid HX
        clear HX HE hf
        go_wp2_with fail
        refine (HL.out d i M' hler hic _ H1.out.tab).mono ?_
        rintro e w2 ⟨rfl, hb2⟩
        rw [HV.out]
        have H2 := Lib.hid (H1.out.below hb2)
        have e0 := H2.out.c0
        have e1 := H2.out.c1
        have e2 := H2.out.c2
        clear d0 d1 d2 hb2
        go_wp2_with fail
        refine (HS.out d f M' hdr hfr _ H2.out.tab).mono ?_
        rintro e w3 ⟨rfl, hT, hK⟩
        have H3 := Lib.hid (H2.out.change hT hK)
        have f0 := H3.out.c0
        have f1 := H3.out.c1
        have f2 := H3.out.c2
        clear e0 e1 e2 hT hK
        go_wp2_with fail
        refine (HO.out d i _ hdr hic _ H3.out.tab).mono ?_
        rintro e w4 ⟨rfl, hT, hK⟩
        have H4 := Lib.hid (H3.out.change hT hK)
        have g0 := H4.out.c0
        have g1 := H4.out.c1
        have g2 := H4.out.c2
        clear f0 f1 f2 hT hK
        go_wp2_with fail
        refine (HC.out d i _ hdr hic _ H4.out.tab).mono ?_
        rintro e w5 ⟨rfl, hT, hK⟩
        have H5 := Lib.hid (H4.out.change hT hK)
        clear g0 g1 g2 hT hK
        go_wp2_with fail
        go_roundw
        case rel => exact ⟨i + 1, by omega, by go_num, by rw [HXX.out]; go_num, by rw [HXX.out]; show BoxS _ _ _ _ _ (clS i d (scS i d (swS r i (M', d)))) _ _; rw [HSW.out]; exact H5.out⟩
        case measure => simp [intOf]; omega
      · have HV : Hid (leadV M' r i d = .tuple #[.int .i64 0, .bool false]) := Lib.hid (by unfold leadV; rw [← hf, if_neg hfr])
        have HX := HE.out _ (stepM_no (s := (M', d)) (by show ¬ lead M' r i d < r; rw [← hf]; exact hfr))
        have HXX := Lib.hid HX
        clear HX HE hf
        go_wp2_with fail
        refine (HL.out d i M' hler hic _ H1.out.tab).mono ?_
        rintro e w2 ⟨rfl, hb2⟩
        rw [HV.out]
        have H2 := Lib.hid (H1.out.below hb2)
        clear d0 d1 d2 hb2
        go_wp2_with fail
        go_roundw
        case rel => exact ⟨i + 1, by omega, by go_num, by rw [HXX.out], by rw [HXX.out]; exact H2.out⟩
        case measure => simp [intOf]; omega
    · obtain rfl : i = cols := by omega
      go_wp2_with fail
      go_ret
      rw [HS1.out]
      exact ⟨rfl, H1.out.tab, H1.out.old⟩
end Go.Proofs.YteanbflbclmeeaaGreat
