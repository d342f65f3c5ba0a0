/- The walk of JournalResets. -/
import Derived.Test.YtafhkpmfcmlbfaaGreatDoorJCrash
import Derived.Test.YtafhkpmfcmlbfaaGreatDoorJAnew
namespace Go.Proofs.YtafhkpmfcmlbfaaGreatDoor
open Go.RowKit

theorem Texts.kp {v : Value} {l : List (List UInt8)} {w w' : World} {p j : Nat} {F : List Nat} (h : Texts v l w) (hk : Kept w.heap.size [p] w w') (hA : Aw v p j F) : Texts v l w' :=
  h.mv (F := F) (F' := F) (X := [p, j]) (Mv.of_kept hk (fun _ hx => by simp at hx; simp [hx])) hA
theorem Texts.kf {v : Value} {l : List (List UInt8)} {w w' : World} {p j : Nat} {F : List Nat} (h : Texts v l w) (hk : Kept w.heap.size F w w') (hA : Aw v p j F) : Texts v l w' :=
  h.mv (F := F) (F' := F) (X := [p, j]) ⟨hk.mono (Nat.le_refl _) (fun _ _ hm => List.mem_append.2 (Or.inr hm)), fun _ h => Or.inl h⟩ hA
set_option maxRecDepth 100000 in
set_option maxHeartbeats 4000000 in
theorem Resets_walk (v1 v2 : Value) (l1 l2 : List (List UInt8)) (fz : Int) (kv : Value) (kb ko : Nat) (ks : List Nat) (keep : List Bool) (t : Int) (hl1 : l1.length ≤ 9223372036854775807) (hl2 : l2.length ≤ 9223372036854775807) (hfz : -9223372036854775808 ≤ fz ∧ fz ≤ 9223372036854775807) (w : World) (hE : ErrCell w) (h1 : Given v1 l1 w) (h2 : Given v2 l2 w)
    (hy : Yes kv kb ko ks keep w) (hks : ∀ k ∈ ks, k < w.heap.size) :
    Calls Tryz.prog 6 #[v1, v2, .int .i64 fz, kv, .int .i64 t] w fun e w' => e = .returned (.bool true) ∧ Below w.heap.size w w' := by
  obtain ⟨r, hr, hpick⟩ := pick_is fz 30 (by omega) (by omega) hfz
  obtain ⟨a, ha⟩ : ∃ a, a = cutAll l1 6 100 := ⟨_, rfl⟩
  obtain ⟨b, hb⟩ : ∃ b, b = cutAll l2 6 100 := ⟨_, rfl⟩
  have HSA := Lib.hid (show (secsAll a ≤ 12 ∧ secsAll b ≤ 12) ∧ (a.length ≤ 6 ∧ b.length ≤ 6) ∧ (∀ q ∈ a, q.length ≤ 60000) ∧ ∀ q ∈ b, q.length ≤ 60000 by
    rw [ha, hb]
    exact ⟨⟨secsAll_cut l1 6, secsAll_cut l2 6⟩, ⟨length_cutAll _ _ _, length_cutAll _ _ _⟩, fun q hq => by have := cutAll_short l1 6 100 q hq; omega, fun q hq => by have := cutAll_short l2 6 100 q hq; omega⟩)
  have CA := Lib.hid (fun (y : World) (hy : Given v1 l1 y) => texts_is v1 l1 6 100 (by omega) hl1 y hy)
  have CB := Lib.hid (fun (y : World) (hy : Given v2 l2 y) => texts_is v2 l2 6 100 (by omega) hl2 y hy)
  rw [← ha] at CA
  rw [← hb] at CB
  obtain ⟨b1, cap1, rfl⟩ := h1.slice
  obtain ⟨b2, cap2, rfl⟩ := h2.slice
  have H1 := Lib.hid h1
  have H2 := Lib.hid h2
  have HPI := Lib.hid hpick
  have HY := Lib.hid hy
  have HKS := Lib.hid hks
  have HE := Lib.hid hE
  clear h1 h2 ha hb hpick hy hks hE
  go_enter Tryz.func6, Tryz.ntmps6
  go_wp2_with fail
  refine (jknown_true _).mono ?_
  rintro e w1 ⟨rfl, hb1⟩
  have HB1 := Lib.hid hb1
  have HE1 := Lib.hid (HE.out.below hb1)
  clear hb1
  go_wp2_with fail
  refine (jrack_ok _).mono ?_
  rintro e w2 ⟨p, d, F2, st2, rfl, hL2⟩
  have HL2 := Lib.hid hL2
  clear hL2
  go_wp2_with fail
  refine (HL2.out.format 2 20 2 40 rfl rfl (by omega) (by omega) (by omega)).mono ?_
  rintro e w3 ⟨j, F3, st3, hj3, rfl, hL3, hJ3, _, _⟩
  have HL3 := Lib.hid hL3
  have HJ3 := Lib.hid hJ3
  clear hL3 hJ3
  go_wp2_with fail
  refine (CA.out _ (H1.out.below (Nat.le_refl _) (HB1.out.trans (HL3.out.old.mono HB1.out.size)))).mono ?_
  rintro e w4 ⟨va, rfl, hown4, hb4⟩
  have hA4 : Aw va p j F3 := fun g hg => by
    have h1 := (hown4.lt g (by rw [← textsBlock_own]; exact hg)).1
    have h2 := HL3.out.jd.dsk.pow.lt
    have h3 := HJ3.out.at_.lt
    exact ⟨by simp; omega, fun hm => by have := HL3.out.jd.dsk.Flt g hm; omega⟩
  have HT4 := Lib.hid (Texts.of_own hown4)
  have HA4 := Lib.hid hA4
  have HL4 := Lib.hid (HL3.out.below hb4)
  have HJ4 := Lib.hid (HJ3.out.below hb4)
  clear hown4 hb4 hA4
  go_wp2_with fail
  refine (CB.out _ (H2.out.below (Nat.le_refl _) (HB1.out.trans (HL4.out.old.mono HB1.out.size)))).mono ?_
  rintro e w5 ⟨vb, rfl, hown5, hb5⟩
  have hA5 : Aw vb p j F3 := fun g hg => by
    have h1 := (hown5.lt g (by rw [← textsBlock_own]; exact hg)).1
    have h2 := HL4.out.jd.dsk.pow.lt
    have h3 := HJ4.out.at_.lt
    exact ⟨by simp; omega, fun hm => by have := HL4.out.jd.dsk.Flt g hm; omega⟩
  have HTB5 := Lib.hid (Texts.of_own hown5)
  have HAB5 := Lib.hid hA5
  have HTA5 := Lib.hid (HT4.out.below (Nat.le_refl _) hb5)
  have HL5 := Lib.hid (HL4.out.below hb5)
  have HJ5 := Lib.hid (HJ4.out.below hb5)
  clear hown5 hb5 hA5
  obtain ⟨ba, capa, rfl⟩ := HTA5.out.slice
  obtain ⟨bb, capb, rfl⟩ := HTB5.out.slice
  go_wp2_with fail
  refine (HL5.out.reset HJ5.out _ a (by omega) (by omega) (by omega) HSA.out.2.2.1 (by have := HSA.out.1.1; omega) HTA5.out).mono ?_
  rintro e w6 ⟨rfl, F6, st6, hL6, hJ6, _, hM6⟩
  have HL6 := Lib.hid hL6
  have HJ6 := Lib.hid hJ6
  have HTA6 := Lib.hid (HTA5.out.mv hM6 HA4.out)
  have HTB6 := Lib.hid (HTB5.out.mv hM6 HAB5.out)
  have HAA6 := Lib.hid (HA4.out.mv HTA5.out hM6)
  have HAB6 := Lib.hid (HAB5.out.mv HTB5.out hM6)
  clear hL6 hJ6 hM6
  go_wp2_with (first | (go_at_call 12; refine (HPI.out _).mono ?_; rintro e w' ⟨rfl, rfl⟩) | fail)
  refine (HL6.out.fuse (by omega) r (by omega)).mono ?_
  rintro e w7 ⟨rfl, hD7, hF7, hO7, hk7⟩
  have HD7 := Lib.hid hD7
  have HF7 := Lib.hid hF7
  have HO7 := Lib.hid hO7
  have hjp := HJ6.out.jp
  have HJ7 := Lib.hid (show Jrn w1 d p F6 st6 j 2 20 1 2 a w7 from ⟨HJ6.out.at_.keep (hk7.block j HJ6.out.at_.lt (by simpa using hjp)), HJ6.out.on, HJ6.out.jF, HJ6.out.jp, HJ6.out.jn⟩)
  have HTA7 := Lib.hid (HTA6.out.kp hk7 HAA6.out)
  have HTB7 := Lib.hid (HTB6.out.kp hk7 HAB6.out)
  clear hD7 hF7 hO7 hk7
  go_wp2_with fail
  refine (HO7.out.reset HE1.out HD7.out HF7.out HL6.out.jd.ps HJ7.out rfl _ (by omega) (by omega) HSA.out.2.2.2 (by have := HSA.out.1.2; omega) HTB7.out).mono ?_
  rintro e w8 ⟨x, rfl, F8, st8, hM8, hOk8, ⟨hFit8, hAc8⟩, hcase⟩
  have HTA8 := Lib.hid (HTA7.out.mv hM8 HAA6.out)
  have HTB8 := Lib.hid (HTB7.out.mv hM8 HAB6.out)
  have HAA8 := Lib.hid (HAA6.out.mv HTA7.out hM8)
  have HAB8 := Lib.hid (HAB6.out.mv HTB7.out hM8)
  have HO8 := Lib.hid (HO7.out.mv hM8 (fun x hx => by
    simp only [List.mem_cons, List.not_mem_nil, or_false] at hx
    rcases hx with rfl | rfl
    · exact HO7.out.pn
    · exact HJ7.out.jn))
  rcases hcase with ⟨rfl, hD, hps, hJO8, _⟩ | ⟨g, g', rfl, hWA, _, hD, _, hlost⟩
  · obtain ⟨act, ep, recs, hJO, hep, hrc⟩ : ∃ act ep recs, JOn (lost st8 (Dk.keptAt keep (Dk.clamp t))) 2 20 act ep recs ∧ ep ≤ 3 ∧ (recs = b ∨ (False ∧ recs = a)) :=
      ⟨0, 3, b, by rw [lost_clean hps]; exact hJO8, by omega, Or.inl rfl⟩
    clear hps hJO8
    have hrs : secsAll recs ≤ 12 ∧ recs.length ≤ 6 := by
      rcases hrc with rfl | ⟨_, rfl⟩
      · exact ⟨HSA.out.1.2, HSA.out.2.1.2⟩
      · exact ⟨HSA.out.1.1, HSA.out.2.1.1⟩
    have hrn := hrs.2
    have HRS := Lib.hid hrs
    have HRC := Lib.hid hrc
    have HJO := Lib.hid hJO
    have HD8 := Lib.hid hD
    have HFC := Lib.hid (And.intro hFit8.a0 hAc8)
    clear hrs hrc hJO hD hFit8 hAc8 hM8 hOk8
    go_wp2_with (first | (go_at_call 33; refine (Gone_any p false _ _ _ HD8.out.pow).mono ?_; rintro e w' ⟨rfl, rfl⟩) | fail)
    refine (on_again HD8.out HO8.out).mono ?_
    rintro e w10 ⟨rfl, hD10, hO10, hk10⟩
    have HD10 := Lib.hid hD10
    have HO10 := Lib.hid hO10
    have HTA10 := Lib.hid (HTA8.out.kp hk10 HAA8.out)
    have HTB10 := Lib.hid (HTB8.out.kp hk10 HAB8.out)
    clear hD10 hO10 hk10
    have HLO := Lib.hid (lose_it (c := 100) HD10.out rfl HFC.out.1 (by have h1 := HFC.out.2; have h2 := HL6.out.jd.a1; show st8.acts ≤ _; have h3 : st8.acts ≤ st6.acts + 10000 := h1; omega) HO10.out kv kb ko ks keep t (HY.out.keep (fun k hk => (HB1.out.trans (HO10.out.old.mono HB1.out.size)).block k (HKS.out k hk))) (fun k hk => by
      have g1 := HKS.out k hk
      have g2 := HB1.out.size
      have g3 := HO10.out.old.size
      exact ⟨by omega, fun hm => by have := HO10.out.fn k hm; omega⟩))
    go_wp2_with fail
    refine HLO.out.mono ?_
    rintro e w11 ⟨rfl, st11, hL11, hv11, hk11⟩
    have HL11 := Lib.hid hL11
    have HJO11 := Lib.hid (show JOn st11.view 2 20 act ep recs by rw [hv11]; exact HJO.out)
    have HTA11 := Lib.hid (HTA10.out.kf hk11 HAA8.out)
    have HTB11 := Lib.hid (HTB10.out.kf hk11 HAB8.out)
    clear hL11 hv11 hk11 HLO
    go_wp2_with fail
    refine (HL11.out.open_on HJO11.out 2 40 rfl rfl (by omega) (by omega)).mono ?_
    rintro e w12 ⟨k, v12, rfl, hT12, _, hL12, hJ12, hb12⟩
    obtain ⟨b12, cap12, rfl⟩ := hT12.slice
    have HT12 := Lib.hid hT12
    have HL12 := Lib.hid hL12
    have HJ12 := Lib.hid hJ12
    have HTA12 := Lib.hid (HTA11.out.below (Nat.le_refl _) hb12)
    have HTB12 := Lib.hid (HTB11.out.below (Nat.le_refl _) hb12)
    clear hT12 hL12 hJ12 hb12
    go_wp2_with fail
    refine (same_any _ _ recs a (by omega) _ HT12.out HTA12.out).mono ?_
    rintro e w13 ⟨q1, rfl, hq1, hb13⟩
    have HQ1 := Lib.hid hq1
    have HT13 := Lib.hid (HT12.out.below (Nat.le_refl _) hb13)
    have HL13 := Lib.hid (HL12.out.below hb13)
    have HJ13 := Lib.hid (HJ12.out.below hb13)
    have HTB13 := Lib.hid (HTB12.out.below (Nat.le_refl _) hb13)
    clear hq1 hb13
    go_wp2_with fail
    refine (same_any _ _ recs b (by omega) _ HT13.out HTB13.out).mono ?_
    rintro e w14 ⟨q2, rfl, hq2, hb14⟩
    have HL14 := Lib.hid (HL13.out.below hb14)
    have HJ14 := Lib.hid (HJ13.out.below hb14)
    have hqq : q2 = true ∨ (False ∧ q1 = true) := by
      rcases HRC.out with h | ⟨h, h'⟩
      · exact Or.inl (hq2.2 h)
      · exact Or.inr ⟨h, HQ1.out.2 h'⟩
    clear hq2 hb14
    obtain rfl : q2 = true := by
      rcases hqq with h | ⟨h, _⟩
      · exact h
      · exact h.elim
    clear hqq
    have CAP := HL14.out.append HJ14.out [109, 111, 114, 101] (by omega) (by omega) (by decide) (by rw [show secs [109, 111, 114, 101] = 1 by rw [secs_eq]; rfl]; have := HRS.out.1; omega)
    rw [show bs [109, 111, 114, 101] = (⟨#[109, 111, 114, 101]⟩ : ByteArray) from (bs_of (s := ⟨#[109, 111, 114, 101]⟩) rfl).symm] at CAP
    have HCAP := Lib.hid CAP
    clear CAP
    go_wp2_with fail
    refine HCAP.out.mono ?_
    rintro e w15 ⟨rfl, F15, st15, hL15, hJ15, _, _⟩
    have HL15 := Lib.hid hL15
    have HJ15 := Lib.hid hJ15
    clear hL15 hJ15
    go_wp2_with fail
    refine (HL15.out.open_ HJ15.out 2 40 rfl rfl (by omega) (by omega)).mono ?_
    rintro e w16 ⟨k16, v16, rfl, hT16, _, hL16, _, hb16⟩
    rcases hT16 with ⟨_, h0⟩ | ⟨g2, o2, cap2, rfl, hg2, hc2⟩
    · simp at h0
    have hln : (recs ++ [[109, 111, 114, 101]]).length = recs.length + 1 := by simp
    have d2 : w16.cell? ⟨g2, o2 + recs.length, none⟩ = some (.string (⟨#[109, 111, 114, 101]⟩ : ByteArray)) := by
      have h3 := hc2 recs.length (by simp)
      rw [List.getD, List.getElem?_append_right (Nat.le_refl _), Nat.sub_self] at h3
      rw [h3, show (⟨#[109, 111, 114, 101]⟩ : ByteArray) = bs [109, 111, 114, 101] from bs_of rfl]; rfl
    rw [hln]
    have HL16 := Lib.hid hL16
    have HJ16 := Lib.hid (HJ15.out.below hb16)
    have hbx : Below w16.heap.size w16 (w16.alloc (.cells #[Value.string ⟨#[108, 97, 115, 116]⟩] 9)) := (Below.refl _ _).alloc (Nat.le_refl _) _
    have HR := Lib.hid ((HL16.out.below hbx).reset (HJ16.out.below hbx) _ [[108, 97, 115, 116]] (by omega) (by omega) (by omega) (by decide) (by rw [secsAll_cons, secsAll_nil, secs_eq]; decide) (texts_one (r := [108, 97, 115, 116]) w16 (bs_of rfl)))
    obtain ⟨nr, hnr⟩ : ∃ n, n = recs.length := ⟨_, rfl⟩
    rw [← hnr] at d2 hrn ⊢
    clear hL16 hb16 hc2 hln hbx hnr
    go_wp2_with fail
    refine HR.out.mono ?_
    rintro e w17 ⟨rfl, F17, st17, hL17, hJ17, _, _⟩
    have HL17 := Lib.hid hL17
    have HJ17 := Lib.hid hJ17
    clear hL17 hJ17 HR
    go_wp2_with fail
    refine (HL17.out.open_ HJ17.out 2 40 rfl rfl (by omega) (by omega)).mono ?_
    rintro e w18 ⟨k18, v18, rfl, hT18, _, hL18, _, _⟩
    rcases hT18 with ⟨_, h0⟩ | ⟨g3, o3, cap3, rfl, hg3, hc3⟩
    · simp at h0
    have d3 : w18.cell? ⟨g3, o3, none⟩ = some (.string (⟨#[108, 97, 115, 116]⟩ : ByteArray)) := by
      rw [show (⟨#[108, 97, 115, 116]⟩ : ByteArray) = bs [108, 97, 115, 116] from bs_of rfl]; exact hc3 0 (by decide)
    have HL18 := Lib.hid hL18
    clear hL18 hc3
    go_wp2_with fail
    go_ret
    exact ⟨rfl, HB1.out.trans (HL18.out.old.mono HB1.out.size)⟩
  · obtain ⟨act, ep, recs, hJO, hep, hrc⟩ : ∃ act ep recs, JOn (lost st8 (Dk.keptAt keep (Dk.clamp t))) 2 20 act ep recs ∧ ep ≤ 3 ∧ (recs = b ∨ (True ∧ recs = a)) := by
      rcases hlost (Dk.keptAt keep (Dk.clamp t)) with h | h
      · exact ⟨_, _, _, h, by omega, Or.inr ⟨trivial, rfl⟩⟩
      · exact ⟨_, _, _, h, by omega, Or.inl rfl⟩
    clear hlost hWA
    unfold faultV
    have hrs : secsAll recs ≤ 12 ∧ recs.length ≤ 6 := by
      rcases hrc with rfl | ⟨_, rfl⟩
      · exact ⟨HSA.out.1.2, HSA.out.2.1.2⟩
      · exact ⟨HSA.out.1.1, HSA.out.2.1.1⟩
    have hrn := hrs.2
    have HRS := Lib.hid hrs
    have HRC := Lib.hid hrc
    have HJO := Lib.hid hJO
    have HD8 := Lib.hid hD
    have HFC := Lib.hid (And.intro hFit8.a0 hAc8)
    clear hrs hrc hJO hD hFit8 hAc8 hM8 hOk8
    go_wp2_with (first | (go_at_call 33; refine (Gone_any p true _ _ _ HD8.out.pow).mono ?_; rintro e w' ⟨rfl, rfl⟩) | fail)
    refine (on_again HD8.out HO8.out).mono ?_
    rintro e w10 ⟨rfl, hD10, hO10, hk10⟩
    have HD10 := Lib.hid hD10
    have HO10 := Lib.hid hO10
    have HTA10 := Lib.hid (HTA8.out.kp hk10 HAA8.out)
    have HTB10 := Lib.hid (HTB8.out.kp hk10 HAB8.out)
    clear hD10 hO10 hk10
    have HLO := Lib.hid (lose_it (c := 100) HD10.out rfl HFC.out.1 (by have h1 := HFC.out.2; have h2 := HL6.out.jd.a1; show st8.acts ≤ _; have h3 : st8.acts ≤ st6.acts + 10000 := h1; omega) HO10.out kv kb ko ks keep t (HY.out.keep (fun k hk => (HB1.out.trans (HO10.out.old.mono HB1.out.size)).block k (HKS.out k hk))) (fun k hk => by
      have g1 := HKS.out k hk
      have g2 := HB1.out.size
      have g3 := HO10.out.old.size
      exact ⟨by omega, fun hm => by have := HO10.out.fn k hm; omega⟩))
    go_wp2_with fail
    refine HLO.out.mono ?_
    rintro e w11 ⟨rfl, st11, hL11, hv11, hk11⟩
    have HL11 := Lib.hid hL11
    have HJO11 := Lib.hid (show JOn st11.view 2 20 act ep recs by rw [hv11]; exact HJO.out)
    have HTA11 := Lib.hid (HTA10.out.kf hk11 HAA8.out)
    have HTB11 := Lib.hid (HTB10.out.kf hk11 HAB8.out)
    clear hL11 hv11 hk11 HLO
    go_wp2_with fail
    refine (HL11.out.open_on HJO11.out 2 40 rfl rfl (by omega) (by omega)).mono ?_
    rintro e w12 ⟨k, v12, rfl, hT12, _, hL12, hJ12, hb12⟩
    obtain ⟨b12, cap12, rfl⟩ := hT12.slice
    have HT12 := Lib.hid hT12
    have HL12 := Lib.hid hL12
    have HJ12 := Lib.hid hJ12
    have HTA12 := Lib.hid (HTA11.out.below (Nat.le_refl _) hb12)
    have HTB12 := Lib.hid (HTB11.out.below (Nat.le_refl _) hb12)
    clear hT12 hL12 hJ12 hb12
    go_wp2_with fail
    refine (same_any _ _ recs a (by omega) _ HT12.out HTA12.out).mono ?_
    rintro e w13 ⟨q1, rfl, hq1, hb13⟩
    have HQ1 := Lib.hid hq1
    have HT13 := Lib.hid (HT12.out.below (Nat.le_refl _) hb13)
    have HL13 := Lib.hid (HL12.out.below hb13)
    have HJ13 := Lib.hid (HJ12.out.below hb13)
    have HTB13 := Lib.hid (HTB12.out.below (Nat.le_refl _) hb13)
    clear hq1 hb13
    go_wp2_with fail
    refine (same_any _ _ recs b (by omega) _ HT13.out HTB13.out).mono ?_
    rintro e w14 ⟨q2, rfl, hq2, hb14⟩
    have HL14 := Lib.hid (HL13.out.below hb14)
    have HJ14 := Lib.hid (HJ13.out.below hb14)
    have hqq : q2 = true ∨ (True ∧ q1 = true) := by
      rcases HRC.out with h | ⟨h, h'⟩
      · exact Or.inl (hq2.2 h)
      · exact Or.inr ⟨h, HQ1.out.2 h'⟩
    clear hq2 hb14
    cases q2 with
    | true =>
      clear hqq
      have CAP := HL14.out.append HJ14.out [109, 111, 114, 101] (by omega) (by omega) (by decide) (by rw [show secs [109, 111, 114, 101] = 1 by rw [secs_eq]; rfl]; have := HRS.out.1; omega)
      rw [show bs [109, 111, 114, 101] = (⟨#[109, 111, 114, 101]⟩ : ByteArray) from (bs_of (s := ⟨#[109, 111, 114, 101]⟩) rfl).symm] at CAP
      have HCAP := Lib.hid CAP
      clear CAP
      go_wp2_with fail
      refine HCAP.out.mono ?_
      rintro e w15 ⟨rfl, F15, st15, hL15, hJ15, _, _⟩
      have HL15 := Lib.hid hL15
      have HJ15 := Lib.hid hJ15
      clear hL15 hJ15
      go_wp2_with fail
      refine (HL15.out.open_ HJ15.out 2 40 rfl rfl (by omega) (by omega)).mono ?_
      rintro e w16 ⟨k16, v16, rfl, hT16, _, hL16, _, hb16⟩
      rcases hT16 with ⟨_, h0⟩ | ⟨g2, o2, cap2, rfl, hg2, hc2⟩
      · simp at h0
      have hln : (recs ++ [[109, 111, 114, 101]]).length = recs.length + 1 := by simp
      have d2 : w16.cell? ⟨g2, o2 + recs.length, none⟩ = some (.string (⟨#[109, 111, 114, 101]⟩ : ByteArray)) := by
        have h3 := hc2 recs.length (by simp)
        rw [List.getD, List.getElem?_append_right (Nat.le_refl _), Nat.sub_self] at h3
        rw [h3, show (⟨#[109, 111, 114, 101]⟩ : ByteArray) = bs [109, 111, 114, 101] from bs_of rfl]; rfl
      rw [hln]
      have HL16 := Lib.hid hL16
      have HJ16 := Lib.hid (HJ15.out.below hb16)
      have hbx : Below w16.heap.size w16 (w16.alloc (.cells #[Value.string ⟨#[108, 97, 115, 116]⟩] 9)) := (Below.refl _ _).alloc (Nat.le_refl _) _
      have HR := Lib.hid ((HL16.out.below hbx).reset (HJ16.out.below hbx) _ [[108, 97, 115, 116]] (by omega) (by omega) (by omega) (by decide) (by rw [secsAll_cons, secsAll_nil, secs_eq]; decide) (texts_one (r := [108, 97, 115, 116]) w16 (bs_of rfl)))
      obtain ⟨nr, hnr⟩ : ∃ n, n = recs.length := ⟨_, rfl⟩
      rw [← hnr] at d2 hrn ⊢
      clear hL16 hb16 hc2 hln hbx hnr
      go_wp2_with fail
      refine HR.out.mono ?_
      rintro e w17 ⟨rfl, F17, st17, hL17, hJ17, _, _⟩
      have HL17 := Lib.hid hL17
      have HJ17 := Lib.hid hJ17
      clear hL17 hJ17 HR
      go_wp2_with fail
      refine (HL17.out.open_ HJ17.out 2 40 rfl rfl (by omega) (by omega)).mono ?_
      rintro e w18 ⟨k18, v18, rfl, hT18, _, hL18, _, _⟩
      rcases hT18 with ⟨_, h0⟩ | ⟨g3, o3, cap3, rfl, hg3, hc3⟩
      · simp at h0
      have d3 : w18.cell? ⟨g3, o3, none⟩ = some (.string (⟨#[108, 97, 115, 116]⟩ : ByteArray)) := by
        rw [show (⟨#[108, 97, 115, 116]⟩ : ByteArray) = bs [108, 97, 115, 116] from bs_of rfl]; exact hc3 0 (by decide)
      have HL18 := Lib.hid hL18
      clear hL18 hc3
      go_wp2_with fail
      go_ret
      exact ⟨rfl, HB1.out.trans (HL18.out.old.mono HB1.out.size)⟩
    | false =>
      obtain rfl : q1 = true := by
        rcases hqq with h | ⟨_, h⟩
        · cases h
        · exact h
      clear hqq
      have CAP := HL14.out.append HJ14.out [109, 111, 114, 101] (by omega) (by omega) (by decide) (by rw [show secs [109, 111, 114, 101] = 1 by rw [secs_eq]; rfl]; have := HRS.out.1; omega)
      rw [show bs [109, 111, 114, 101] = (⟨#[109, 111, 114, 101]⟩ : ByteArray) from (bs_of (s := ⟨#[109, 111, 114, 101]⟩) rfl).symm] at CAP
      have HCAP := Lib.hid CAP
      clear CAP
      go_wp2_with fail
      refine HCAP.out.mono ?_
      rintro e w15 ⟨rfl, F15, st15, hL15, hJ15, _, _⟩
      have HL15 := Lib.hid hL15
      have HJ15 := Lib.hid hJ15
      clear hL15 hJ15
      go_wp2_with fail
      refine (HL15.out.open_ HJ15.out 2 40 rfl rfl (by omega) (by omega)).mono ?_
      rintro e w16 ⟨k16, v16, rfl, hT16, _, hL16, _, hb16⟩
      rcases hT16 with ⟨_, h0⟩ | ⟨g2, o2, cap2, rfl, hg2, hc2⟩
      · simp at h0
      have hln : (recs ++ [[109, 111, 114, 101]]).length = recs.length + 1 := by simp
      have d2 : w16.cell? ⟨g2, o2 + recs.length, none⟩ = some (.string (⟨#[109, 111, 114, 101]⟩ : ByteArray)) := by
        have h3 := hc2 recs.length (by simp)
        rw [List.getD, List.getElem?_append_right (Nat.le_refl _), Nat.sub_self] at h3
        rw [h3, show (⟨#[109, 111, 114, 101]⟩ : ByteArray) = bs [109, 111, 114, 101] from bs_of rfl]; rfl
      rw [hln]
      have HL16 := Lib.hid hL16
      have HJ16 := Lib.hid (HJ15.out.below hb16)
      have hbx : Below w16.heap.size w16 (w16.alloc (.cells #[Value.string ⟨#[108, 97, 115, 116]⟩] 9)) := (Below.refl _ _).alloc (Nat.le_refl _) _
      have HR := Lib.hid ((HL16.out.below hbx).reset (HJ16.out.below hbx) _ [[108, 97, 115, 116]] (by omega) (by omega) (by omega) (by decide) (by rw [secsAll_cons, secsAll_nil, secs_eq]; decide) (texts_one (r := [108, 97, 115, 116]) w16 (bs_of rfl)))
      obtain ⟨nr, hnr⟩ : ∃ n, n = recs.length := ⟨_, rfl⟩
      rw [← hnr] at d2 hrn ⊢
      clear hL16 hb16 hc2 hln hbx hnr
      go_wp2_with fail
      refine HR.out.mono ?_
      rintro e w17 ⟨rfl, F17, st17, hL17, hJ17, _, _⟩
      have HL17 := Lib.hid hL17
      have HJ17 := Lib.hid hJ17
      clear hL17 hJ17 HR
      go_wp2_with fail
      refine (HL17.out.open_ HJ17.out 2 40 rfl rfl (by omega) (by omega)).mono ?_
      rintro e w18 ⟨k18, v18, rfl, hT18, _, hL18, _, _⟩
      rcases hT18 with ⟨_, h0⟩ | ⟨g3, o3, cap3, rfl, hg3, hc3⟩
      · simp at h0
      have d3 : w18.cell? ⟨g3, o3, none⟩ = some (.string (⟨#[108, 97, 115, 116]⟩ : ByteArray)) := by
        rw [show (⟨#[108, 97, 115, 116]⟩ : ByteArray) = bs [108, 97, 115, 116] from bs_of rfl]; exact hc3 0 (by decide)
      have HL18 := Lib.hid hL18
      clear hL18 hc3
      go_wp2_with fail
      go_ret
      exact ⟨rfl, HB1.out.trans (HL18.out.old.mono HB1.out.size)⟩
end Go.Proofs.YtafhkpmfcmlbfaaGreatDoor
