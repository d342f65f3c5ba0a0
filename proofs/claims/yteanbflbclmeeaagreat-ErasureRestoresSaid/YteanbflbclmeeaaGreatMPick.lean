/- The walk of Pick. -/
import Derived.Test.YteanbflbclmeeaaGreatMApply
namespace Go.Proofs.YteanbflbclmeeaaGreat
open Go.RowKit

def Ints (b o n : Nat) (f : Nat → Int) (w : World) : Prop := ∀ j, j < n → w.cell? ⟨b, o + j, none⟩ = some (.int .i64 (f j))
theorem Ints.keep {b o n : Nat} {f : Nat → Int} {w w' : World} (h : Ints b o n f w) (hk : w'.heap[b]? = w.heap[b]?) : Ints b o n f w' := fun j hj => (World.cell?_of_block (w := w) (a := ⟨b, o + j, none⟩) hk).trans (h j hj)
set_option maxHeartbeats 1000000 in
theorem Pick_bad1 (r c : Int) (a0 : Option Addr) (len cap : Nat) (p0 : Option Addr) (nr capr : Nat) (hr : rightB r c len = false) (w : World) : Calls Tryz.prog 37 #[.agg #[.int .i64 r, .int .i64 c, .slice a0 len cap], .slice p0 nr capr] w fun e w' => ∃ V E, e = .returned (.tuple #[V, E]) ∧ PA w.heap.size 1 0 0 zeroM V E w' ∧ Below w.heap.size w w' := by
  obtain ⟨s1, s2, _⟩ := start2 w (.cells #[.int .i64 r, .int .i64 c, .slice a0 len cap] 62)
  have S1 := Lib.hid s1
  have S2 := Lib.hid s2
  clear s1 s2
  go_enter Tryz.func37, Tryz.ntmps37
  go_wp2_with fail
  refine (Right_any r c a0 len cap _).mono ?_
  rintro e w1 ⟨rfl, hb1⟩
  rw [hr]
  have R1 := Lib.hid (S1.out.below hb1 S1.out.lt)
  have B1 := Lib.hid (S2.out.trans (hb1.mono S2.out.size))
  clear hb1
  go_wp2_with fail
  refine (nothing_any 1 _).mono ?_
  rintro e w2 ⟨g, hg, rfl, hF, hb2⟩
  have R2 := Lib.hid (R1.out.below hb2 R1.out.lt)
  have B2 := Lib.hid (B1.out.trans (hb2.mono B1.out.size))
  have HF := Lib.hid hF
  have hgr : g ≠ w.heap.size + 1 := by have := R1.out.lt; omega
  clear hb2 hF
  unfold noneV faultV
  go_wp2_with (refine wpList_store_whole rfl 62 _ _ rfl (w.heap.size + 1) zeroRow zeroRow 62 rfl rfl R2.out rfl (by kernel_rfl) (by decide) ?_; intro w3 h3 k3 s3; go_frame)
  have := fail_post (code := 1) (by decide) B2.out (Nat.le_succ _) (Nat.le_trans B1.out.size hg) HF.out hgr k3.out
  exact bodyPost_ret (results_mid2 Tryz.results37 _ _ (w.heap.size + 1) 0 zeroRow _ rfl (range_of_list h3.out) Tryz.underlying62 rfl (by kernel_rfl)) rfl ⟨_, _, rfl, this.1, this.2⟩
set_option maxHeartbeats 1000000 in
theorem Pick_bad2 (r c : Int) (a0 : Option Addr) (len cap : Nat) (p0 : Option Addr) (nr capr : Nat) (hr : rightB r c len = true) (hn : mayB nr = false) (w : World) : Calls Tryz.prog 37 #[.agg #[.int .i64 r, .int .i64 c, .slice a0 len cap], .slice p0 nr capr] w fun e w' => ∃ V E, e = .returned (.tuple #[V, E]) ∧ PA w.heap.size 1 0 0 zeroM V E w' ∧ Below w.heap.size w w' := by
  obtain ⟨s1, s2, _⟩ := start2 w (.cells #[.int .i64 r, .int .i64 c, .slice a0 len cap] 62)
  have S1 := Lib.hid s1
  have S2 := Lib.hid s2
  have HN := Lib.hid hn
  clear s1 s2 hn
  go_enter Tryz.func37, Tryz.ntmps37
  go_wp2_with fail
  refine (Right_any r c a0 len cap _).mono ?_
  rintro e w1 ⟨rfl, hb1⟩
  rw [hr]
  have R1 := Lib.hid (S1.out.below hb1 S1.out.lt)
  have B1 := Lib.hid (S2.out.trans (hb1.mono S2.out.size))
  clear hb1
  go_wp2_with fail
  refine (mayBe_any _ _).mono ?_
  rintro e w' ⟨rfl, rfl⟩
  rw [HN.out]
  go_wp2_with fail
  refine (nothing_any 1 _).mono ?_
  rintro e w2 ⟨g, hg, rfl, hF, hb2⟩
  have R2 := Lib.hid (R1.out.below hb2 R1.out.lt)
  have B2 := Lib.hid (B1.out.trans (hb2.mono B1.out.size))
  have HF := Lib.hid hF
  have hgr : g ≠ w.heap.size + 1 := by have := R1.out.lt; omega
  clear hb2 hF
  unfold noneV faultV
  go_wp2_with (refine wpList_store_whole rfl 62 _ _ rfl (w.heap.size + 1) zeroRow zeroRow 62 rfl rfl R2.out rfl (by kernel_rfl) (by decide) ?_; intro w3 h3 k3 s3; go_frame)
  have := fail_post (code := 1) (by decide) B2.out (Nat.le_succ _) (Nat.le_trans B1.out.size hg) HF.out hgr k3.out
  exact bodyPost_ret (results_mid2 Tryz.results37 _ _ (w.heap.size + 1) 0 zeroRow _ rfl (range_of_list h3.out) Tryz.underlying62 rfl (by kernel_rfl)) rfl ⟨_, _, rfl, this.1, this.2⟩
def pickM (X : Mat) (p : Nat → Nat) : Mat := fun i j => X (p i) j
set_option maxRecDepth 20000 in
set_option maxHeartbeats 4000000 in
theorem Pick_rows (rn cn b o len cap pb po nr capr k : Nat) (X : Mat) (f : Nat → Int) (p : Nat → Nat) (hr1 : 1 ≤ rn) (hr2 : rn ≤ 255) (hc1 : 1 ≤ cn) (hc2 : cn ≤ 255) (hlen : rn * cn = len) (hcap : len ≤ cap) (hn1 : 1 ≤ nr) (hn2 : nr ≤ 255)
    (hk : k ≤ nr) (hp : ∀ j, j < k → f j = (p j : Int) ∧ p j < rn) (hbad : k < nr → f k < 0 ∨ (rn : Int) ≤ f k)
    (w : World) (hX : Src b o X rn cn w) (hbl : b < w.heap.size) (h : Ints pb po nr f w) (hpl : pb < w.heap.size) :
    Calls Tryz.prog 37 #[.agg #[.int .i64 rn, .int .i64 cn, .slice (some ⟨b, o, none⟩) len cap], .slice (some ⟨pb, po, none⟩) nr capr] w fun e w' => ∃ V E, e = .returned (.tuple #[V, E]) ∧ ((k = nr ∧ PA w.heap.size 0 nr cn (pickM X p) V E w') ∨ (k < nr ∧ PA w.heap.size 1 0 0 zeroM V E w')) ∧ Below w.heap.size w w' := by
  have hr : rightB rn cn len = true := by rw [rightB_eq]; exact decide_eq_true ⟨by omega, by omega, by omega, by omega, by rw [← hlen]; simp⟩
  have HMB : Hid (mayB nr = true) := Lib.hid (by rw [mayB_eq]; exact decide_eq_true ⟨by omega, by omega⟩)
  have hlm : len ≤ 65025 := by rw [← hlen]; exact Nat.mul_le_mul hr2 hc2
  obtain ⟨N, hN⟩ : ∃ N, nr * cn = N := ⟨_, rfl⟩
  have hNm : N ≤ 1000000 := by rw [← hN]; exact Nat.le_trans (Nat.mul_le_mul hn2 hc2) (by decide)
  obtain ⟨s1, s2, s3⟩ := start2 w (.cells #[.int .i64 rn, .int .i64 cn, .slice (some ⟨b, o, none⟩) len cap] 62)
  have S1 := Lib.hid s1
  have S2 := Lib.hid s2
  have S3 := Lib.hid s3
  have HLEN := Lib.hid hlen
  have HN := Lib.hid hN
  have HX := Lib.hid hX
  have HI := Lib.hid h
  have HP := Lib.hid hp
  have HBAD := Lib.hid hbad
  clear s1 s2 s3 hlen hN hX h hp hbad
  go_enter Tryz.func37, Tryz.ntmps37
  go_wp2_with fail
  refine (Right_any _ _ _ len cap _).mono ?_
  rintro e w1 ⟨rfl, hb1⟩
  rw [hr]
  have R1 := Lib.hid (S1.out.below hb1 S1.out.lt)
  have B1 := Lib.hid (S2.out.trans (hb1.mono S2.out.size))
  have hM1 : BoxM w.heap.size rn cn b o len cap w1 := ((hb1.block _ (by simp; omega)).trans S3.out).trans (heap_alloc_new _ _)
  have d0 := (heap_cell0 hM1).1
  have d1 := (heap_cell0 hM1).2.1
  have HM1 := Lib.hid hM1
  clear hb1 hM1
  go_wp2_with fail
  refine (mayBe_any _ _).mono ?_
  rintro e w' ⟨rfl, rfl⟩
  rw [HMB.out]
  go_wp2_with fail
  refine (blank_any nr cn N HN.out hNm _).mono ?_
  rintro e w2 ⟨g, hg, rfl, hT, hb2⟩
  have HM2 := Lib.hid (HM1.out.below hb2 HM1.out.lt)
  have R2 := Lib.hid (R1.out.below hb2 R1.out.lt)
  have HT2 := Lib.hid hT
  have B2 := Lib.hid (B1.out.trans (hb2.mono B1.out.size))
  have hgw : w.heap.size ≤ g := by have := B1.out.size; omega
  have hgM : w.heap.size ≠ g := by have := HM1.out.lt; omega
  have hgR : w.heap.size + 1 ≠ g := by have := R1.out.lt; omega
  clear hT hb2 d0 d1 hg
  unfold tabV
  go_wp2_with (refine wpList_store_whole rfl 104 _ _ rfl w2.heap.size (tabRow g nr cn N) zeroRow 104 rfl rfl (heap_alloc_new _ _) rfl (by kernel_rfl) (tabRow_ones _ _ _ _) ?_; intro w3 h3 k3 s3; go_frame)
  have hbx := boxed (w0 := w) h3.out k3.out HT2.out (Kept.of_below B2.out)
  have HM3 := HM2.out.below hbx.2 HM2.out.lt
  have R3 := Lib.hid (R2.out.below hbx.2 R2.out.lt)
  have B3 := B2.out.trans (hbx.2.mono B2.out.size)
  obtain ⟨B, hBe⟩ : ∃ B, B = w2.heap.size := ⟨_, rfl⟩
  have hbx1 := hbx.1
  rw [← hBe] at hbx1 ⊢
  have hTW : TwoS 62 B g nr cn N w.heap.size b o rn cn len cap X (mulTo (pickM X p) 0) w w3 := ⟨by rw [mulTo_zero]; exact hbx1, HM3, HX.out.keep (B3.block b hbl), Nat.lt_of_lt_of_le hbl B3.size, by omega, hgM⟩
  have HTW := Lib.hid hTW
  clear h3 k3 s3 hbx hbx1 hTW HM3 B3 HM2 R2 HT2 B2 HM1 R1 B1 hBe
  go_loopw [28] (fun iv wr => ∃ i : Nat, i ≤ k ∧ iv = .int .i64 i ∧ (TwoS 62 B g nr cn N w.heap.size b o rn cn len cap X (mulTo (pickM X p) i) w wr ∧ ResAt (w.heap.size + 1) 62 wr)) (fun iv _ => nr - (intOf iv).toNat)
  case atStart => exact ⟨0, by omega, rfl, HTW.out, R3.out⟩
  case round =>
    clear HTW R3
    obtain ⟨i, hi, rfl, hA⟩ := hrel
    have hBw : Below w.heap.size w wr := hA.1.one.old.below (by simp; omega)
    have e0 := (heap_cell0 hA.1.two).1
    by_cases hik : i < k
    · have hlt : i < nr := by omega
      obtain ⟨pf, hplt⟩ := HP.out i hik
      obtain ⟨q, hq⟩ : ∃ q, q = p i := ⟨_, rfl⟩
      rw [← hq] at pf hplt
      have ci : wr.cell? ⟨pb, po + i, none⟩ = some (.int .i64 (q : Int)) := by
        rw [← pf]; exact HI.out.keep (hBw.block pb hpl) i hlt
      obtain ⟨A, hA2⟩ : ∃ A, i * cn = A := ⟨_, rfl⟩
      obtain ⟨D, hD⟩ : ∃ D, q * cn = D := ⟨_, rfl⟩
      have fA := row_fits HN.out hA2 hlt
      have fD := row_fits HLEN.out hD hplt
      obtain ⟨S, hS⟩ : ∃ S, S = fun v => TwoS 62 B g nr cn N w.heap.size b o rn cn len cap X (mulTo (pickM X p) i) w v ∧ ResAt (w.heap.size + 1) 62 v := ⟨_, rfl⟩
      have h1 : S wr := by rw [hS]; exact hA
      have hSb : ∀ v v', S v → Below v.heap.size v v' → S v' := by rw [hS]; exact fun v v' hv hb => ⟨hv.1.below hb, hv.2.below hb hv.2.lt⟩
      have c0 : ∀ u : Of S, u.w.cell? ⟨B, 0, none⟩ = some (.int .i64 nr) := by rw [hS]; exact fun u => u.ok.1.one.c0
      have c1 : ∀ u : Of S, u.w.cell? ⟨B, 1, none⟩ = some (.int .i64 cn) := by rw [hS]; exact fun u => u.ok.1.one.c1
      have c2 : ∀ u : Of S, u.w.cell? ⟨B, 2, none⟩ = some (.slice (some ⟨g, 0, none⟩) N N) := by rw [hS]; exact fun u => u.ok.1.one.c2
      have k0 : ∀ u : Of S, u.w.cell? ⟨w.heap.size, 0, none⟩ = some (.int .i64 rn) := by rw [hS]; exact fun u => (heap_cell0 u.ok.1.two).1
      have k1 : ∀ u : Of S, u.w.cell? ⟨w.heap.size, 1, none⟩ = some (.int .i64 cn) := by rw [hS]; exact fun u => (heap_cell0 u.ok.1.two).2.1
      have k2 : ∀ u : Of S, u.w.cell? ⟨w.heap.size, 2, none⟩ = some (.slice (some ⟨b, o, none⟩) len cap) := by rw [hS]; exact fun u => (heap_cell0 u.ok.1.two).2.2
      have Q1 := Lib.hid (quiet_S hSb (fun v _ => trow_any g nr cn N i A hA2 fA hNm hc1 v))
      have Q2 := Lib.hid (quiet_S hSb (fun v _ => row_any rn cn b o len cap q D hD (by omega) (by omega) hc1 (by omega) (by omega) v))
      haveI : Nonempty (Of S) := ⟨⟨_, h1⟩⟩
      have hd : S wr.drew := by rw [hS]; exact ⟨hA.1.drew, hA.2⟩
      have HH := Lib.hid hd
      have HS := Lib.hid hS
      have HA := Lib.hid hA2
      have HD := Lib.hid hD
      have HQ := Lib.hid hq
      clear h1 hS hA hA2 hD hd hSb hq pf hBw
      go_wp2_with fail
      refine wp_region_S_tail S (by kernel_rfl) rfl (copy_same (d := 46) (s := 49) (k := 50) rfl rfl (by decide) (by decide)) (by kernel_rfl) (by kernel_rfl) (by kernel_rfl) HH.out ?_
      simp only [initL, lastL, List.cons_append, List.nil_append, Oper.mute]
      repeat (go_big_quiet_step (first | (go_at_call 60; first | (with_reducible exact Q1.out _) | (with_reducible exact Q2.out _))))
      refine wpQuiet_nil ?_
      rintro w2 ⟨u2, e2⟩
      have h2 : S w2 := e2 ▸ u2.ok
      rw [HS.out] at h2
      have H2 := Lib.hid h2
      clear e2 u2 h2 c0 c1 c2 k0 k1 k2 Q1 Q2 this HH ci e0
      refine ends_copy_row (.tmp 46) (.tmp 49) 60 60 rfl 5 Tryz.underlying60 (by kernel_rfl) g A cn (N - A) b (o + D) cn (cap - D) cn rfl rfl (Nat.min_self cn).symm ((textOf (X q) cn).map u8v) (by rw [u8v_len, length_textOf]) (by have := H2.out.1.src.row hplt; rw [HD.out] at this; exact this) (fun v hv => by obtain ⟨x, _, rfl⟩ := List.mem_map.1 hv; rfl) _ _ _ 5 (H2.out.1.one.tab.parts hlt) (by rw [u8v_len, length_ahead _ hlt, HA.out]) (by rw [u8v_len, length_textOf]) ?_
      intro w3 hg3 hk3
      have hT : Tab g (mulTo (pickM X p) (i + 1)) nr cn w3 := by
        rw [← mulTo_step]
        show Tab g (setRow i (X (p i)) _) nr cn w3
        rw [← HQ.out]
        exact Tab.of_parts hlt _ hg3.out
      have H3 := Lib.hid (And.intro (H2.out.1.change hT hk3.out) (H2.out.2.kept hk3.out hgR))
      simp only [Act.put, List.setIfInBounds_toArray, List.set_cons_zero, List.set_cons_succ]
      clear hg3 hk3 hT
      go_wp2_with fail
      go_roundw
      case rel => exact ⟨i + 1, by omega, by go_num, H3.out⟩
      case measure => simp [intOf]; omega
    · obtain rfl : i = k := by omega
      by_cases hlt : i < nr
      · have hx := HBAD.out hlt
        obtain ⟨x, hxe⟩ : ∃ x, x = f i := ⟨_, rfl⟩
        rw [← hxe] at hx
        have ci : wr.cell? ⟨pb, po + i, none⟩ = some (.int .i64 x) := by
          rw [hxe]; exact HI.out.keep (hBw.block pb hpl) i hlt
        have HA := Lib.hid hA
        have HBW := Lib.hid hBw
        clear hA hBw hxe
        have fin : Hid (∀ (w1 w2 : World) (g8 : Nat), wr.heap.size ≤ g8 → FaultAt g8 1 0 w1 → Below wr.heap.size wr w1 → Kept w1.heap.size [w.heap.size + 1] w1 w2 → PA w.heap.size 1 0 0 zeroM noneV (faultV g8) w2 ∧ Below w.heap.size w w2) := Lib.hid (fun w1 w2 g8 hg8 hF hb hk =>
          fail_post (code := 1) (by decide) (HBW.out.trans (hb.mono HBW.out.size)) (Nat.le_succ _) (Nat.le_trans HBW.out.size hg8) hF (by have := HA.out.2.lt; omega) hk)
        by_cases hneg : x < 0
        · go_wp2_with fail
          refine (nothing_any 1 _).mono ?_
          rintro e w4 ⟨g8, hg8, rfl, hF, hb8⟩
          have R8 := Lib.hid (HA.out.2.below hb8 HA.out.2.lt)
          have HF := Lib.hid (And.intro hF hb8)
          clear hb8 hF
          unfold noneV faultV
          go_wp2_with (refine wpList_store_whole rfl 62 _ _ rfl (w.heap.size + 1) zeroRow zeroRow 62 rfl rfl R8.out rfl (by kernel_rfl) (by decide) ?_; intro w5 h5 k5 s5; go_frame)
          have := fin.out w4 w5 g8 hg8 HF.out.1 HF.out.2 k5.out
          exact bodyPost_ret (results_mid2 Tryz.results37 _ _ (w.heap.size + 1) 0 zeroRow _ rfl (range_of_list h5.out) Tryz.underlying62 rfl (by kernel_rfl)) rfl ⟨_, _, rfl, .inr ⟨hlt, this.1⟩, this.2⟩
        · have hge : (rn : Int) ≤ x := by omega
          go_wp2_with fail
          refine (nothing_any 1 _).mono ?_
          rintro e w4 ⟨g8, hg8, rfl, hF, hb8⟩
          have R8 := Lib.hid (HA.out.2.below hb8 HA.out.2.lt)
          have HF := Lib.hid (And.intro hF hb8)
          clear hb8 hF
          unfold noneV faultV
          go_wp2_with (refine wpList_store_whole rfl 62 _ _ rfl (w.heap.size + 1) zeroRow zeroRow 62 rfl rfl R8.out rfl (by kernel_rfl) (by decide) ?_; intro w5 h5 k5 s5; go_frame)
          have := fin.out w4 w5 g8 hg8 HF.out.1 HF.out.2 k5.out
          exact bodyPost_ret (results_mid2 Tryz.results37 _ _ (w.heap.size + 1) 0 zeroRow _ rfl (range_of_list h5.out) Tryz.underlying62 rfl (by kernel_rfl)) rfl ⟨_, _, rfl, .inr ⟨hlt, this.1⟩, this.2⟩
      · obtain rfl : i = nr := by omega
        have d0 := hA.1.one.c0
        have d1 := hA.1.one.c1
        have d2 := hA.1.one.c2
        have HA := Lib.hid hA
        have HBW := Lib.hid hBw
        clear hA hBw
        go_wp2_with (refine wpList_store_whole rfl 62 _ _ rfl (w.heap.size + 1) (tabRow g i cn N) zeroRow 62 rfl rfl HA.out.2 rfl (by kernel_rfl) (tabRow_ones _ _ _ _) ?_; intro w4 h4 k4 s4; go_frame)
        have hTf : Tab g (pickM X p) i cn w4 := ((HA.out.1.one.tab.alike (mulTo_all _ _ _)).keep (k4.out.block _ HA.out.1.one.tab.lt (by simp; omega)))
        exact bodyPost_ret (results_mid2 Tryz.results37 _ _ (w.heap.size + 1) 0 (tabRow g i cn N) _ rfl (range_of_list h4.out) Tryz.underlying62 rfl (by kernel_rfl)) rfl ⟨_, _, rfl, by first | exact .inl ⟨rfl, PA.ok HN.out hgw hTf⟩ | exact PA.ok HN.out hgw hTf, below_kept HBW.out k4.out (by omega) HBW.out.size⟩
end Go.Proofs.YteanbflbclmeeaaGreat
