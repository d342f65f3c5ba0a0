/- The walk of JournalTwo. -/
import Derived.Test.YtafhkpmfcmlbfaaGreatDoorJAnew
namespace Go.Proofs.YtafhkpmfcmlbfaaGreatDoor
open Go.RowKit

/-- Two journals, and the lists that they are told of. -/
structure Pair (w0 : World) (d p : Nat) (F : List Nat) (st : St) (c x y : Nat) (ra rb a b : List (List UInt8)) (va vb : Value) (w : World) : Prop where
  lw : Lw w0 d p 64 F st c w
  jx : Jrn w0 d p F st x 0 16 0 1 ra w
  jy : Jrn w0 d p F st y 32 16 0 1 rb w
  ta : Texts va a w
  tb : Texts vb b w
  aa : Aw va p x F
  ab : Aw vb p x F
  ay : Aw va p y F
  bb : Aw vb p y F
theorem take_all {l : List (List UInt8)} {i : Nat} (h : ¬ i < l.length) : l.take (i + 1) = l.take i := by
  rw [List.take_of_length_le (by omega), List.take_of_length_le (by omega)]
theorem take_more {l : List (List UInt8)} {i : Nat} (h : i < l.length) : l.take (i + 1) = l.take i ++ [l.getD i []] := by
  rw [List.take_succ_eq_append_getElem h, List.getD, List.getElem?_eq_getElem h]; rfl
theorem secsAll_short (l : List (List UInt8)) (n : Nat) (hl : l.length ≤ n) (h : ∀ s ∈ l, s.length ≤ 100) : secsAll l ≤ 2 * n := by
  induction l generalizing n with
  | nil => rw [secsAll_nil]; omega
  | cons s x ih =>
    rw [List.length_cons] at hl
    have := ih (n - 1) (by omega) (fun t ht => h t (List.mem_cons_of_mem _ ht))
    have hs := h s (List.mem_cons_self ..)
    rw [secsAll_cons, secs_eq]
    omega
theorem Texts.at_ {v : Value} {l : List (List UInt8)} {w : World} (h : Texts v l w) {i : Nat} (hi : i < l.length) : ∃ g off cap, v = .slice (some ⟨g, off, none⟩) l.length cap ∧ w.cell? ⟨g, off + i, none⟩ = some (.string (bs (l.getD i []))) := by
  rcases h with ⟨_, h0⟩ | ⟨g, off, cap, hv, _, hc⟩
  · rw [h0] at hi; simp at hi
  · exact ⟨g, off, cap, hv, hc i hi⟩
/-- There is room for the i-th one, of at most seven short ones. -/
theorem room_for {l : List (List UInt8)} (hl : l.length ≤ 7) (hs : ∀ s ∈ l, s.length ≤ 100) {i : Nat} (hi : i < l.length) : (l.getD i []).length ≤ 60000 ∧ 1 + secsAll (l.take i) + secs (l.getD i []) ≤ 16 := by
  have hr : (l.getD i []).length ≤ 100 := hs _ (by rw [List.getD, List.getElem?_eq_getElem hi]; exact List.getElem_mem _)
  have h1 := secsAll_short (l.take i) i (by rw [List.length_take]; omega) (fun s hs' => hs s (List.mem_of_mem_take hs'))
  exact ⟨by omega, by rw [secs_eq]; omega⟩
section
variable {w0 : World} {d p : Nat} {F : List Nat} {st : St} {c x y : Nat} {ra rb a b : List (List UInt8)} {va vb : Value} {w : World}
theorem Pair.appendX (h : Pair w0 d p F st c x y ra rb a b va vb w) (hxy : x ≠ y) (hc : c ≤ 1000) (r : List UInt8) (hr : r.length ≤ 60000 ∧ 1 + secsAll ra + secs r ≤ 16) :
    Calls Tryz.prog 31 #[.pointer (some ⟨x, 0, none⟩), .string (bs r)] w fun e w' => e = .returned .nilIface ∧ ∃ F' st', Pair w0 d p F' st' (c + 1) x y (ra ++ [r]) rb a b va vb w' := by
  refine (h.lw.append h.jx r (by omega) (by omega) hr.1 hr.2).mono ?_
  rintro e w' ⟨rfl, F', st', hL, hJ, hV, hM⟩
  exact ⟨rfl, F', st', hL, hJ, h.jy.other hM (by have := h.jy.jp; simp; omega) (by omega) (fun z h1 h2 => hV z (Or.inr (by omega))), h.ta.mv hM h.aa, h.tb.mv hM h.ab, h.aa.mv h.ta hM, h.ab.mv h.tb hM, h.ay.mv h.ta hM, h.bb.mv h.tb hM⟩
theorem Pair.appendY (h : Pair w0 d p F st c x y ra rb a b va vb w) (hxy : x ≠ y) (hc : c ≤ 1000) (r : List UInt8) (hr : r.length ≤ 60000 ∧ 1 + secsAll rb + secs r ≤ 16) :
    Calls Tryz.prog 31 #[.pointer (some ⟨y, 0, none⟩), .string (bs r)] w fun e w' => e = .returned .nilIface ∧ ∃ F' st', Pair w0 d p F' st' (c + 1) x y ra (rb ++ [r]) a b va vb w' := by
  refine (h.lw.append h.jy r (by omega) (by omega) hr.1 hr.2).mono ?_
  rintro e w' ⟨rfl, F', st', hL, hJ, hV, hM⟩
  exact ⟨rfl, F', st', hL, h.jx.other hM (by have := h.jx.jp; simp; omega) (by omega) (fun z h1 h2 => hV z (Or.inl (by omega))), hJ, h.ta.mv hM h.ay, h.tb.mv hM h.bb, h.aa.mv h.ta hM, h.ab.mv h.tb hM, h.ay.mv h.ta hM, h.bb.mv h.tb hM⟩
end
set_option maxRecDepth 100000 in
set_option maxHeartbeats 4000000 in
theorem Two_walk (v1 v2 : Value) (l1 l2 : List (List UInt8)) (hl1 : l1.length ≤ 9223372036854775807) (hl2 : l2.length ≤ 9223372036854775807) (w : World) (h1 : Given v1 l1 w) (h2 : Given v2 l2 w) :
    Calls Tryz.prog 7 #[v1, v2] w fun e w' => e = .returned (.bool true) ∧ Below w.heap.size w w' := by
  obtain ⟨a, ha⟩ : ∃ a, a = cutAll l1 7 100 := ⟨_, rfl⟩
  obtain ⟨b, hb⟩ : ∃ b, b = cutAll l2 7 100 := ⟨_, rfl⟩
  have hal : a.length ≤ 7 := by rw [ha]; exact length_cutAll _ _ _
  have hbl : b.length ≤ 7 := by rw [hb]; exact length_cutAll _ _ _
  have has : ∀ s ∈ a, s.length ≤ 100 := by rw [ha]; exact cutAll_short _ _ _
  have hbs : ∀ s ∈ b, s.length ≤ 100 := by rw [hb]; exact cutAll_short _ _ _
  have CA := Lib.hid (fun (y : World) (hy : Given v1 l1 y) => texts_is v1 l1 7 100 (by omega) hl1 y hy)
  have CB := Lib.hid (fun (y : World) (hy : Given v2 l2 y) => texts_is v2 l2 7 100 (by omega) hl2 y hy)
  rw [← ha] at CA
  rw [← hb] at CB
  obtain ⟨b1, cap1, rfl⟩ := h1.slice
  obtain ⟨b2, cap2, rfl⟩ := h2.slice
  have H1 := Lib.hid h1
  have H2 := Lib.hid h2
  have HAS := Lib.hid has
  have HBS := Lib.hid hbs
  clear h1 h2 has hbs ha hb
  go_enter Tryz.func7, Tryz.ntmps7
  go_wp2_with fail
  refine (jknown_true _).mono ?_
  rintro e w1 ⟨rfl, hb1⟩
  have HB1 := Lib.hid hb1
  clear hb1
  go_wp2_with fail
  refine (jrack_ok _).mono ?_
  rintro e w2 ⟨p, d, F2, st2, rfl, hL2⟩
  have HL2 := Lib.hid hL2
  clear hL2
  go_wp2_with fail
  refine (HL2.out.format 0 16 0 32 rfl rfl (by omega) (by omega) (by omega)).mono ?_
  rintro e w3 ⟨x, F3, st3, hx3, rfl, hL3, hJ3, _, _⟩
  have HL3 := Lib.hid hL3
  have HJ3 := Lib.hid hJ3
  clear hL3 hJ3
  go_wp2_with fail
  refine (HL3.out.format 32 16 32 32 rfl rfl (by omega) (by omega) (by omega)).mono ?_
  rintro e w4 ⟨y, F4, st4, hy4, rfl, hL4, hJ4, hV4, hM4⟩
  have hxy : x ≠ y := by have := HJ3.out.at_.lt; omega
  have HX4 := Lib.hid (HJ3.out.other hM4 (by simpa using HJ3.out.jp) (by omega) (fun z h1 h2 => hV4 z (Or.inl (by omega))))
  have HL4 := Lib.hid hL4
  have HY4 := Lib.hid hJ4
  clear hL4 hJ4 hV4 hM4 hx3 hy4
  go_wp2_with fail
  refine (CA.out _ (H1.out.below (Nat.le_refl _) (HB1.out.trans (HL4.out.old.mono HB1.out.size)))).mono ?_
  rintro e w5 ⟨va, rfl, hown5, hb5⟩
  have hT5 := Texts.of_own hown5
  have hA5 : Aw va p x F4 ∧ Aw va p y F4 := by
    have h2 := HL4.out.jd.dsk.pow.lt
    have h3 := HX4.out.at_.lt
    have h4 := HY4.out.at_.lt
    have hF := HL4.out.jd.dsk.Flt
    refine ⟨fun g hg => ?_, fun g hg => ?_⟩
    · have h1 := (hown5.lt g (by rw [← textsBlock_own]; exact hg)).1
      exact ⟨by simp; omega, fun hm => by have := hF g hm; omega⟩
    · have h1 := (hown5.lt g (by rw [← textsBlock_own]; exact hg)).1
      exact ⟨by simp; omega, fun hm => by have := hF g hm; omega⟩
  have HL5 := Lib.hid (HL4.out.below hb5)
  have HX5 := Lib.hid (HX4.out.below hb5)
  have HY5 := Lib.hid (HY4.out.below hb5)
  have HT5 := Lib.hid hT5
  have HA5 := Lib.hid hA5
  clear hown5 hb5 hT5 hA5
  go_wp2_with fail
  refine (CB.out _ (H2.out.below (Nat.le_refl _) (HB1.out.trans (HL5.out.old.mono HB1.out.size)))).mono ?_
  rintro e w6 ⟨vb, rfl, hown6, hb6⟩
  have hT6 := Texts.of_own hown6
  have hP6 : Pair w1 d p F4 st4 (0 + 2 + 2) x y (a.take 0) (b.take 0) a b va vb w6 := by
    have h2 := HL5.out.jd.dsk.pow.lt
    have h3 := HX5.out.at_.lt
    have h4 := HY5.out.at_.lt
    have hF := HL5.out.jd.dsk.Flt
    refine ⟨HL5.out.below hb6, HX5.out.below hb6, HY5.out.below hb6, HT5.out.below (Nat.le_refl _) hb6, hT6, HA5.out.1, fun g hg => ?_, HA5.out.2, fun g hg => ?_⟩
    · have h1 := (hown6.lt g (by rw [← textsBlock_own]; exact hg)).1
      exact ⟨by simp; omega, fun hm => by have := hF g hm; omega⟩
    · have h1 := (hown6.lt g (by rw [← textsBlock_own]; exact hg)).1
      exact ⟨by simp; omega, fun hm => by have := hF g hm; omega⟩
  obtain ⟨ba, capa, rfl⟩ := HT5.out.slice
  obtain ⟨bb, capb, rfl⟩ := hT6.slice
  have HP6 := Lib.hid hP6
  clear hown6 hb6 hT6 hP6 HT5 HA5
  go_wp2_with fail
  go_loopw [12] (fun iv wr => ∃ (i c : Nat) (F : List Nat) (st : St), i ≤ 7 ∧ iv = .int .i64 i ∧ c ≤ 4 + 2 * i ∧ Pair w1 d p F st c x y (a.take i) (b.take i) a b (.slice ba a.length capa) (.slice bb b.length capb) wr) (fun iv _ => 7 - (intOf iv).toNat)
  case atStart => exact ⟨0, 4, F4, st4, by omega, rfl, by omega, HP6.out⟩
  case round =>
    clear HP6
    obtain ⟨i, c, F, st, hi7, rfl, hc, hP⟩ := hrel
    have HP := Lib.hid hP
    by_cases hlt : i < 7
    · have HRA := Lib.hid (fun (h : i < a.length) => room_for hal HAS.out h)
      have HRB := Lib.hid (fun (h : i < b.length) => room_for hbl HBS.out h)
      by_cases hia : i < a.length
      · obtain ⟨g1, o1, k1, hv1, e1⟩ := hP.ta.at_ hia
        injection hv1 with hv1 _ hv3
        subst hv1 hv3
        obtain ⟨q1, hq1⟩ : ∃ q, q = bs (a.getD i []) := ⟨_, rfl⟩
        have CXA := Lib.hid (HP.out.appendX hxy (by omega) (a.getD i []) (HRA.out hia))
        rw [← take_more hia, ← hq1] at CXA
        rw [← hq1] at e1
        clear hq1 hP
        by_cases hib : i < b.length
        · as_aux_lemma =>
          go_wp2_with fail
          refine CXA.out.mono ?_
          rintro e w8 ⟨rfl, F8, st8, hP8⟩
          obtain ⟨g2, o2, k2, hv2, e2⟩ := hP8.tb.at_ hib
          injection hv2 with hv2 _ hv4
          subst hv2 hv4
          obtain ⟨q2, hq2⟩ : ∃ q, q = bs (b.getD i []) := ⟨_, rfl⟩
          have CYB := Lib.hid (hP8.appendY hxy (by omega) (b.getD i []) (HRB.out hib))
          rw [← take_more hib, ← hq2] at CYB
          rw [← hq2] at e2
          clear hq2 hP8
          go_wp2_with fail
          refine CYB.out.mono ?_
          rintro e w9 ⟨rfl, F9, st9, hP9⟩
          have HP9 := Lib.hid hP9
          clear hP9
          go_wp2_with fail
          go_roundw
          case rel => exact ⟨i + 1, c + 1 + 1, F9, st9, by omega, by go_num, by omega, HP9.out⟩
          case measure => simp [intOf]; omega
        · as_aux_lemma =>
          go_wp2_with fail
          refine CXA.out.mono ?_
          rintro e w8 ⟨rfl, F8, st8, hP8⟩
          rw [← take_all (l := b) hib] at hP8
          have HP8 := Lib.hid hP8
          clear hP8
          go_wp2_with fail
          go_roundw
          case rel => exact ⟨i + 1, c + 1, F8, st8, by omega, by go_num, by omega, HP8.out⟩
          case measure => simp [intOf]; omega
      · by_cases hib : i < b.length
        · as_aux_lemma =>
          obtain ⟨g2, o2, k2, hv2, e2⟩ := hP.tb.at_ hib
          injection hv2 with hv2 _ hv4
          subst hv2 hv4
          obtain ⟨q2, hq2⟩ : ∃ q, q = bs (b.getD i []) := ⟨_, rfl⟩
          have CYB := Lib.hid (HP.out.appendY hxy (by omega) (b.getD i []) (HRB.out hib))
          rw [← take_more hib, ← hq2, ← take_all (l := a) hia] at CYB
          rw [← hq2] at e2
          clear hq2 hP
          go_wp2_with fail
          refine CYB.out.mono ?_
          rintro e w9 ⟨rfl, F9, st9, hP9⟩
          have HP9 := Lib.hid hP9
          clear hP9
          go_wp2_with fail
          go_roundw
          case rel => exact ⟨i + 1, c + 1, F9, st9, by omega, by go_num, by omega, HP9.out⟩
          case measure => simp [intOf]; omega
        · as_aux_lemma =>
          rw [← take_all (l := a) hia, ← take_all (l := b) hib] at hP
          have HP9 := Lib.hid hP
          clear hP
          go_wp2_with fail
          go_roundw
          case rel => exact ⟨i + 1, c, F, st, by omega, by go_num, by omega, HP9.out⟩
          case measure => simp [intOf]; omega
    · as_aux_lemma =>
      have hi : i = 7 := by omega
      have eA : a.take i = a := List.take_of_length_le (by omega)
      have eB : b.take i = b := List.take_of_length_le (by omega)
      rw [eA, eB] at hP
      have HPF := Lib.hid hP
      clear hP HP eA eB
      go_wp2_with fail
      refine (HPF.out.lw.open_ HPF.out.jx 0 32 rfl rfl (by omega) (by omega)).mono ?_
      rintro e w8 ⟨k8, v8, rfl, hT8, _, hL8, _, hb8⟩
      obtain ⟨b8, cap8, rfl⟩ := hT8.slice
      have HL8 := Lib.hid hL8
      have HT8 := Lib.hid hT8
      have HY8 := Lib.hid (HPF.out.jy.below hb8)
      have HTA8 := Lib.hid (HPF.out.ta.below (Nat.le_refl _) hb8)
      have HTB8 := Lib.hid (HPF.out.tb.below (Nat.le_refl _) hb8)
      clear hT8 hL8 hb8
      go_wp2_with fail
      refine (HL8.out.open_ HY8.out 32 32 rfl rfl (by omega) (by omega)).mono ?_
      rintro e w9 ⟨k9, v9, rfl, hT9, _, hL9, _, hb9⟩
      obtain ⟨b9, cap9, rfl⟩ := hT9.slice
      have HL9 := Lib.hid hL9
      have HT9 := Lib.hid hT9
      have HT89 := Lib.hid (HT8.out.below (Nat.le_refl _) hb9)
      have HTA9 := Lib.hid (HTA8.out.below (Nat.le_refl _) hb9)
      have HTB9 := Lib.hid (HTB8.out.below (Nat.le_refl _) hb9)
      clear hT9 hL9 hb9
      go_wp2_with fail
      refine (same_is _ _ a (by omega) _ HT89.out HTA9.out).mono ?_
      rintro e w10 ⟨rfl, hb10⟩
      have HL10 := Lib.hid (HL9.out.below hb10)
      have HT10 := Lib.hid (HT9.out.below (Nat.le_refl _) hb10)
      have HTB10 := Lib.hid (HTB9.out.below (Nat.le_refl _) hb10)
      clear hb10
      go_wp2_with fail
      refine (same_is _ _ b (by omega) _ HT10.out HTB10.out).mono ?_
      rintro e w11 ⟨rfl, hb11⟩
      have HL11 := Lib.hid (HL10.out.below hb11)
      clear hb11
      go_wp2_with fail
      go_ret
      exact ⟨rfl, HB1.out.trans (HL11.out.old.mono HB1.out.size)⟩
end Go.Proofs.YtafhkpmfcmlbfaaGreatDoor
