/- The walk of JournalCrash. -/
import Derived.Test.YtfancfladdecjaaGreatDoorJCrash
import Derived.Test.YtfancfladdecjaaGreatDoorJAnew
namespace Go.Proofs.YtfancfladdecjaaGreatDoor
open Go.RowKit

theorem run_append_nothing {P : Program} (w : World) (t ty e : TypeId) (i : TypeInfo) (ht : P.underlying t = some (.slice e)) (hi : P.info? e = some i) (b : Option Addr) (c : Nat) :
    (Builtin.append_ #[t, t] ty #[.slice none 0 0, .slice b 0 c]).run P w = .ok (.slice none 0 0) w := by
  cases b <;> simp [Builtin.append_, run_underlying ht, sizeOf, typeInfo, hi, Builtin.lenOf, Builtin.firstCells]
  rfl
/-- append of a list of texts to nil, in a region that draws. -/
theorem step_append_texts {ops : Array Oper} {o : Oper} {a : Act} {w : World} {K : Act → World → Prop} {Q : Exit → Act → World → Prop} {E : Prop} (hgd : o.guard = none) (s x : Operand)
    (ho : o.op = .call { callee := .builtin .append, args := #[s, x], argTypes := #[31, 31] }) (hs : a.eval s = .slice none 0 0) (v : Value) (l : List (List UInt8)) (hx : a.eval x = v) (hT : Texts v l w) (hl : l.length ≤ 1000000) (dst : Option Tmp) (hdst : o.dst = dst)
    (h : ∀ u w', Hid (w'.ownsRow w.heap.size 9 1 u l.length (l.map strv)) → Hid (Below w.heap.size w w') → K (a.put dst u) w') : if Region.wanted o (yielded ops a.tmps) = true then Oper.wp Tryz.prog o a w K Q else E := by
  obtain ⟨i0, hi, hz0, hz1, hz2⟩ := info_parts infoString
  subst hdst
  rcases Nat.eq_zero_or_pos l.length with h0 | h0
  · obtain ⟨b, c, hv⟩ := hT.slice
    obtain rfl : l = [] := List.eq_nil_of_length_eq_zero h0
    rw [List.length_nil] at hv
    have hw : Region.wanted o (yielded ops a.tmps) = true := by simp [Region.wanted, hgd]
    rw [if_pos hw]
    have hrun := run_append_nothing (P := Tryz.prog) w 31 o.type 9 i0 Tryz.underlying31 hi b c
    unfold Oper.wp
    simp [execOp, ho, resolve, invoke, builtin, hs, hx, hv, hrun, Result.andThen]
    exact h _ _ (Lib.hid (World.ownsRow_nil _ _ _ _)) (Lib.hid (Below.refl _ _))
  · rcases hT with ⟨_, h1⟩ | ⟨g, off, cap, hv, hg, hc⟩
    · rw [h1] at h0; simp at h0
    · refine step_append_own hgd s x 31 ho w.heap.size 9 i0 (.string ⟨#[]⟩) 1 16 Tryz.underlying31 hi hz0 hz1 hz2 rfl (by decide) (.slice none 0 0) 0 [] hs (World.ownsRow_nil _ _ _ _) ⟨g, off, none⟩ l.length cap (l.map strv) (hx.trans hv) h0 (by simp) ?_ ?_ (by unfold maxLen; omega) (by omega) (Nat.le_refl _) ?_
      · intro j u hu
        have hj : j < l.length := by
          rcases Nat.lt_or_ge j l.length with h2 | h2
          · exact h2
          · rw [List.getElem?_eq_none (by rw [List.length_map]; exact h2)] at hu; cases hu
        rw [List.getElem?_map, List.getElem?_eq_getElem hj] at hu
        rw [Addr.add_mid, hc j hj, ← hu, List.getD, List.getElem?_eq_getElem hj]; rfl
      · intro u hu
        obtain ⟨y, _, rfl⟩ := List.mem_map.1 hu
        rfl
      · intro g2 cap2 w2 h1 h2 _
        refine h _ _ (Lib.hid ?_) (Lib.hid ((Below.refl _ _).grown h2.out (Nat.le_refl _) (fun k hk => by cases hk)))
        have h3 := h1.out
        rw [List.nil_append] at h3
        have e : (0 + l.length : Nat) = l.length := Nat.zero_add _
        rw [e] at h3 ⊢
        exact h3
/-- append of one text more, in a region that draws. -/
theorem step_append_one {ops : Array Oper} {o : Oper} {a : Act} {w : World} {K : Act → World → Prop} {Q : Exit → Act → World → Prop} {E : Prop} (hgd : o.guard = none) (s x : Operand)
    (ho : o.op = .call { callee := .builtin .append, args := #[s, x], argTypes := #[31, 31] }) (u : Value) (hs : a.eval s = u) (g2 : Nat) (hx : a.eval x = .slice (some ⟨g2, 0, none⟩) 1 1) (dst : Option Tmp) (hdst : o.dst = dst)
    (l : List (List UInt8)) (r : List UInt8) (q : ByteArray) (hq : q = bs r) (B : Nat) (hown : w.ownsRow B 9 1 u l.length (l.map strv)) (hB : B ≤ w.heap.size) (hg : w.heap[g2]? = some (.cells [Value.string q].toArray 9 (0, 0))) (hl : l.length ≤ 1000000)
    (h : ∀ v w', Hid (Texts v (l ++ [r]) w') → Hid (Below B w w') → K (a.put dst v) w') : if Region.wanted o (yielded ops a.tmps) = true then Oper.wp Tryz.prog o a w K Q else E := by
  obtain ⟨i0, hi, hz0, hz1, hz2⟩ := info_parts infoString
  subst hdst
  refine step_append_own hgd s x 31 ho B 9 i0 (.string ⟨#[]⟩) 1 16 Tryz.underlying31 hi hz0 hz1 hz2 rfl (by decide) u l.length (l.map strv) hs hown ⟨g2, 0, none⟩ 1 1 [Value.string q] hx (by decide) rfl (news_row hg) ?_ (by unfold maxLen; omega) (by omega) hB ?_
  · intro v hv
    simp only [List.mem_singleton] at hv
    rw [hv]; rfl
  · intro g cap w2 h1 h2 _
    refine h _ _ (Lib.hid (Texts.of_own (B := B) ?_)) (Lib.hid ((Below.refl _ _).grown h2.out hB (fun k hk => (hown.lt k hk).1)))
    have h3 := h1.out
    rw [List.length_append, List.length_singleton, List.map_append, List.map_singleton, strv, ← hq]
    exact h3
/-- A disk with no blocks but its own: no error lies there. -/
theorem Dsk.least {d p n : Nat} {F : List Nat} {st : St} {ok : Bool} {w : World} (h : Dsk d p n F st ok w) :
    ∃ F0, (∀ x ∈ F0, x ∈ F) ∧ Dsk d p n F0 st ok w ∧ ∀ g cs, w.heap[g]? = some (.cells cs 109 (0, 0)) → g ∉ F0 ∧ g ≠ p := by
  obtain ⟨bl, bn, pv, h1, h2, h3, h4, h5, h6, h7⟩ := h.liv
  refine ⟨d :: bl :: bn :: pv.ownBlock.toList, ?_, ⟨⟨bl, bn, pv, h1, by simp, by simp, by simp, fun g hg => by simp [hg], ?_, ?_⟩, h.pow⟩, ?_⟩
  · intro x hx
    simp only [List.mem_cons, Option.mem_toList] at hx
    rcases hx with rfl | rfl | rfl | hx
    · exact h2
    · exact h3
    · exact h4
    · exact h5 _ hx
  · intro hm
    simp only [List.mem_cons, Option.mem_toList] at hm
    rcases hm with e | e | e | e
    · exact h1.p0 e
    · exact h1.p1 e
    · exact h1.p2 e
    · exact (h1.own _ e).2.2.2 rfl
  · intro x hx
    simp only [List.mem_cons, Option.mem_toList] at hx
    rcases hx with rfl | rfl | rfl | hx
    · exact h7 _ h2
    · exact h7 _ h3
    · exact h7 _ h4
    · exact h7 _ (h5 _ hx)
  · intro g cs hg
    refine ⟨fun hx => ?_, ?_⟩
    · simp only [List.mem_cons, Option.mem_toList] at hx
      rcases hx with rfl | rfl | rfl | hx
      · have := h1.obj; rw [hg] at this; simp at this
      · have := h1.lst; rw [hg] at this; simp at this
      · have := h1.nws; rw [hg] at this; simp at this
      · rcases h1.pnd.2 with ⟨hv, _⟩ | ⟨g2, cap, cur, hv, _, hh, _⟩
        · rw [hv] at hx; cases hx
        · rw [hv] at hx
          obtain rfl : g2 = g := by simpa [Value.ownBlock] using hx
          rw [hg] at hh; simp at hh
    · rintro rfl
      have := h.pow; unfold PowerAt at this; rw [hg] at this; simp at this
set_option maxRecDepth 100000 in
set_option maxHeartbeats 4000000 in
theorem Crash_walk (v1 : Value) (l1 : List (List UInt8)) (lst : List UInt8) (fz : Int) (kv : Value) (kb ko : Nat) (ks : List Nat) (keep : List Bool) (t : Int) (hl1 : l1.length ≤ 9223372036854775807) (hfz : -9223372036854775808 ≤ fz ∧ fz ≤ 9223372036854775807) (w : World) (hE : ErrCell w) (h1 : Given v1 l1 w) 
    (hy : Yes kv kb ko ks keep w) (hks : ∀ k ∈ ks, k < w.heap.size) :
    Calls Tryz.prog 5 #[v1, .string (bs lst), .int .i64 fz, kv, .int .i64 t] w fun e w' => e = .returned (.bool true) ∧ Below w.heap.size w w' := by
  obtain ⟨r, hr, hpick⟩ := pick_is fz 20 (by omega) (by omega) hfz
  obtain ⟨a, ha⟩ : ∃ a, a = cutAll l1 8 100 := ⟨_, rfl⟩
  obtain ⟨one, hone⟩ : ∃ x, x = lst.take 400 := ⟨_, rfl⟩
  have hc1 : cutAll [lst] 1 400 = [one] := by rw [hone]; rfl
  have HSA := Lib.hid (show secsAll a ≤ 16 ∧ a.length ≤ 8 ∧ (∀ q ∈ a, q.length ≤ 100) ∧ secs one ≤ 7 ∧ one.length ≤ 400 by
    rw [ha, hone]
    have h1 : (lst.take 400).length ≤ 400 := by rw [List.length_take]; omega
    exact ⟨secsAll_cut l1 8, length_cutAll _ _ _, fun q hq => cutAll_short l1 8 100 q hq, by rw [secs_eq]; omega, h1⟩)
  have CA := Lib.hid (fun (y : World) (hy : Given v1 l1 y) => texts_is v1 l1 8 100 (by omega) hl1 y hy)
  have CB := Lib.hid (fun (vv : Value) (y : World) (hy : Given vv [lst] y) => texts_is vv [lst] 1 400 (by omega) (by simp) y hy)
  rw [← ha] at CA
  rw [hc1] at CB
  obtain ⟨b1, cap1, rfl⟩ := h1.slice
  obtain ⟨ql, hql⟩ : ∃ q, q = bs lst := ⟨_, rfl⟩
  have HQL := Lib.hid hql
  rw [← hql]
  clear ha hone hc1 hql
  have H1 := Lib.hid h1
  have HPI := Lib.hid hpick
  have HY := Lib.hid hy
  have HKS := Lib.hid hks
  have HE := Lib.hid hE
  clear h1 hpick hy hks hE
  go_enter Tryz.func5, Tryz.ntmps5
  go_wp2_with fail
  refine (jknown_true _).mono ?_
  rintro e w1 ⟨rfl, hb1⟩
  have HB1 := Lib.hid hb1
  have HE1 := Lib.hid (HE.out.below hb1)
  clear hb1
  go_wp2_with fail
  refine (jrack_ok _).mono ?_
  rintro e w2 ⟨p, d, F2, st2, rfl, hL2⟩
  have HL2 := Lib.hid hL2
  clear hL2
  go_wp2_with fail
  refine (HL2.out.format 0 32 0 64 rfl rfl (by omega) (by omega) (by omega)).mono ?_
  rintro e w3 ⟨j, F3, st3, hj3, rfl, hL3, hJ3, _, _⟩
  have HL3 := Lib.hid hL3
  have HJ3 := Lib.hid hJ3
  clear hL3 hJ3
  go_wp2_with fail
  refine (CA.out _ (H1.out.below (Nat.le_refl _) (HB1.out.trans (HL3.out.old.mono HB1.out.size)))).mono ?_
  rintro e w4 ⟨va, rfl, hown4, hb4⟩
  have hA4 : Aw va p j F3 := fun g hg => by
    have h1 := (hown4.lt g (by rw [← textsBlock_own]; exact hg)).1
    have h2 := HL3.out.jd.dsk.pow.lt
    have h3 := HJ3.out.at_.lt
    exact ⟨by simp; omega, fun hm => by have := HL3.out.jd.dsk.Flt g hm; omega⟩
  have HT4 := Lib.hid (Texts.of_own hown4)
  have HA4 := Lib.hid hA4
  have HL4 := Lib.hid (HL3.out.below hb4)
  have HJ4 := Lib.hid (HJ3.out.below hb4)
  clear hown4 hb4 hA4
  go_wp2_with fail
  obtain ⟨ba, capa, rfl⟩ := HT4.out.slice
  go_loopw [16] (fun iv wr => ∃ (i c : Nat) (F : List Nat) (st : St), i ≤ a.length ∧ iv = .int .i64 i ∧ c ≤ 2 + i ∧ Lw w1 d p 64 F st c wr ∧ Jrn w1 d p F st j 0 32 0 1 (a.take i) wr ∧ Texts (.slice ba a.length capa) a wr ∧ Aw (.slice ba a.length capa) p j F) (fun iv _ => a.length - (intOf iv).toNat)
  case atStart => exact ⟨0, 2, F3, st3, by omega, rfl, by omega, HL4.out, HJ4.out, HT4.out, HA4.out⟩
  case round =>
    clear HL4 HJ4 HT4 HA4
    obtain ⟨i, c, F, st, hi, rfl, hc, hL, hJ, hT, hA⟩ := hrel
    have HL := Lib.hid hL
    have HJ := Lib.hid hJ
    have HT := Lib.hid hT
    have HA := Lib.hid hA
    clear hL hJ hT hA
    have hal := HSA.out.2.1
    by_cases hlt : i < a.length
    · as_aux_lemma =>
      obtain ⟨g1, o1, k1, hv1, e1⟩ := HT.out.at_ hlt
      injection hv1 with hv1 _ hv3
      subst hv1 hv3
      obtain ⟨q1, hq1⟩ : ∃ q, q = bs (a.getD i []) := ⟨_, rfl⟩
      have hr1 : (a.getD i []).length ≤ 100 := HSA.out.2.2.1 _ (by rw [List.getD, List.getElem?_eq_getElem hlt]; exact List.getElem_mem _)
      have hs1 := secsAll_short (a.take i) i (by rw [List.length_take]; omega) (fun s hs' => HSA.out.2.2.1 s (List.mem_of_mem_take hs'))
      have CXA := Lib.hid (HL.out.append HJ.out (a.getD i []) (by omega) (by omega) (by omega) (by rw [secs_eq]; omega))
      rw [← take_more hlt, ← hq1] at CXA
      rw [← hq1] at e1
      clear hq1 hr1 hs1
      go_wp2_with fail
      refine CXA.out.mono ?_
      rintro e w8 ⟨rfl, F8, st8, hL8, hJ8, _, hM8⟩
      have HL8 := Lib.hid hL8
      have HJ8 := Lib.hid hJ8
      have HT8 := Lib.hid (HT.out.mv hM8 HA.out)
      have HA8 := Lib.hid (HA.out.mv HT.out hM8)
      clear hL8 hJ8 hM8 CXA
      go_wp2_with fail
      go_roundw
      case rel => exact ⟨i + 1, c + 1, F8, st8, by omega, by go_num, by omega, HL8.out, HJ8.out, HT8.out, HA8.out⟩
      case measure => simp [intOf]; omega
    · obtain rfl : i = a.length := by omega
      have hJa := HJ.out
      rw [List.take_length] at hJa
      have HJa := Lib.hid hJa
      clear hJa HJ hlt
      go_wp2_with fail
      have hba : Below wr.heap.size wr (wr.alloc (.cells #[Value.string ql] 9)) := (Below.refl _ _).alloc (Nat.le_refl _) _
      refine (CB.out _ _ (Or.inr (texts_one wr HQL.out))).mono ?_
      rintro e w5 ⟨vo, rfl, hown5, hb5⟩
      have hb5' : Below wr.heap.size wr w5 := hba.trans (hb5.mono (by simp))
      have hA5 : Aw vo p j F := fun g hg => by
        have h1 := (hown5.lt g (by rw [← textsBlock_own]; exact hg)).1
        simp at h1
        have h2 := HL.out.jd.dsk.pow.lt
        have h3 := HJa.out.at_.lt
        exact ⟨by simp; omega, fun hm => by have := HL.out.jd.dsk.Flt g hm; omega⟩
      have HTB6 := Lib.hid (Texts.of_own (l := [one]) hown5)
      have HAB6 := Lib.hid hA5
      have HTA6 := Lib.hid (HT.out.below (Nat.le_refl _) hb5')
      have HAA6 := HA
      have HL6 := Lib.hid (HL.out.below hb5')
      have HJ6 := Lib.hid (HJa.out.below hb5')
      clear hown5 hb5 hb5' hA5 hba
      obtain ⟨go, oo, capo, hvo, _⟩ := HTB6.out.at_ (i := 0) (by simp)
      subst hvo
      go_wp2_with (first | (go_at_call 9; refine (HPI.out _).mono ?_; rintro e w' ⟨rfl, rfl⟩) | fail)
      refine (HL6.out.fuse (by omega) r (by omega)).mono ?_
      rintro e w7 ⟨rfl, hD7, hF7, hO7, hk7⟩
      have HD7 := Lib.hid hD7
      have HF7 := Lib.hid hF7
      have HO7 := Lib.hid hO7
      have hjp := HJ6.out.jp
      have HJ7 := Lib.hid (show Jrn w1 d p F st j 0 32 0 1 a w7 from ⟨HJ6.out.at_.keep (hk7.block j HJ6.out.at_.lt (by simpa using hjp)), HJ6.out.on, HJ6.out.jF, HJ6.out.jp, HJ6.out.jn⟩)
      have HTA7 := Lib.hid (HTA6.out.kp hk7 HAA6.out)
      have HTB7 := Lib.hid (HTB6.out.kp hk7 HAB6.out)
      clear hD7 hF7 hO7 hk7
      obtain ⟨qo, hqo⟩ : ∃ q, q = bs one := ⟨_, rfl⟩
      have co7 : w7.cell? ⟨go, oo, none⟩ = some (.string qo) := by
        rcases HTB7.out with ⟨_, h0⟩ | ⟨g, o, cp, hv, _, hc⟩
        · cases h0
        · injection hv with hv1 _ _
          injection hv1 with hv1
          injection hv1 with e1 e2 _
          subst e1 e2
          rw [hqo]; exact hc 0 (by simp)
      have CAP := HO7.out.append HE1.out HD7.out HF7.out HL6.out.jd.ps HJ7.out rfl one (by omega) (by have := HSA.out.2.2.2.2; omega) (by have h1 := HSA.out.1; have h2 := HSA.out.2.2.2.1; omega)
      rw [← hqo] at CAP
      have HCAP := Lib.hid CAP
      have HQO := Lib.hid hqo
      clear CAP hqo
      go_wp2_with fail
      refine HCAP.out.mono ?_
      rintro e w8 ⟨x, rfl, F8, st8, hM8, hOk8, ⟨hFit8, hAc8⟩, hcase⟩
      have HTA8 := Lib.hid (HTA7.out.mv hM8 HAA6.out)
      have HTB8 := Lib.hid (HTB7.out.mv hM8 HAB6.out)
      have HAA8 := Lib.hid (HAA6.out.mv HTA7.out hM8)
      have HAB8 := Lib.hid (HAB6.out.mv HTB7.out hM8)
      have HO8 := Lib.hid (HO7.out.mv hM8 (fun x hx => by
        simp only [List.mem_cons, List.not_mem_nil, or_false] at hx
        rcases hx with rfl | rfl
        · exact HO7.out.pn
        · exact HJ7.out.jn))
      rcases hcase with ⟨rfl, hD, hps, hJO8, _⟩ | ⟨g, g', rfl, hWA, _, hD, _, hlost⟩
      · as_aux_lemma =>
        obtain ⟨recs, hJO, hrc⟩ : ∃ recs, JOn (lost st8 (Dk.keptAt keep (Dk.clamp t))) 0 32 0 1 recs ∧ recs = a ++ [one] := ⟨a ++ [one], by rw [lost_clean hps]; exact hJO8, rfl⟩
        clear hps hJO8
        obtain ⟨F0, hF0, hD0, hG0⟩ := hD.least
        have HO0 := Lib.hid (show Own w1 p F0 w8 from ⟨HO8.out.old, HO8.out.pn, fun x hx => HO8.out.fn x (hF0 x hx)⟩)
        have HAA0 := Lib.hid (show Aw (.slice ba a.length capa) p j F0 from fun g hg => ⟨(HAA8.out g hg).1, fun hm => (HAA8.out g hg).2 (hF0 _ hm)⟩)
        have HAB0 := Lib.hid (show Aw (.slice (some ⟨go, oo, none⟩) [one].length capo) p j F0 from fun g hg => ⟨(HAB8.out g hg).1, fun hm => (HAB8.out g hg).2 (hF0 _ hm)⟩)
        have hrl : recs.length ≤ 9 := by
          have := HSA.out.2.1
          rw [hrc]; simp; omega
        have HRC := Lib.hid hrc
        have HJO := Lib.hid hJO
        have HD8 := Lib.hid hD0
        have HFC := Lib.hid (And.intro hFit8.a0 hAc8)
        clear hrc hJO hD hD0 hF0 hG0 hFit8 hAc8 hM8 hOk8
        go_wp2_with (first | (go_at_call 30; refine (Gone_any p false _ _ _ HD8.out.pow).mono ?_; rintro e w' ⟨rfl, rfl⟩) | fail)
        refine (on_again HD8.out HO0.out).mono ?_
        rintro e w10 ⟨rfl, hD10, hO10, hk10⟩
        have HD10 := Lib.hid hD10
        have HO10 := Lib.hid hO10
        have HTA10 := Lib.hid (HTA8.out.kp hk10 HAA0.out)
        have HTB10 := Lib.hid (HTB8.out.kp hk10 HAB0.out)
        clear hD10 hO10 hk10
        have HLO := Lib.hid (lose_it (c := 100) HD10.out rfl HFC.out.1 (by have h1 := HFC.out.2; have h2 := HL6.out.jd.a1; show st8.acts ≤ _; have h3 : st8.acts ≤ st.acts + 10000 := h1; omega) HO10.out kv kb ko ks keep t (HY.out.keep (fun k hk => (HB1.out.trans (HO10.out.old.mono HB1.out.size)).block k (HKS.out k hk))) (fun k hk => by
          have g1 := HKS.out k hk
          have g2 := HB1.out.size
          have g3 := HO10.out.old.size
          exact ⟨by omega, fun hm => by have := HO10.out.fn k hm; omega⟩))
        go_wp2_with fail
        refine HLO.out.mono ?_
        rintro e w11 ⟨rfl, st11, hL11, hv11, hk11⟩
        have HL11 := Lib.hid hL11
        have HJO11 := Lib.hid (show JOn st11.view 0 32 0 1 recs by rw [hv11]; exact HJO.out)
        have HTA11 := Lib.hid (HTA10.out.kf hk11 HAA0.out)
        have HTB11 := Lib.hid (HTB10.out.kf hk11 HAB0.out)
        clear hL11 hv11 hk11 HLO
        go_wp2_with fail
        refine (HL11.out.open_on HJO11.out 0 64 rfl rfl (by omega) (by omega)).mono ?_
        rintro e w12 ⟨k, v12, rfl, hT12, _, hL12, hJ12, hb12⟩
        obtain ⟨b12, cap12, rfl⟩ := hT12.slice
        have HT12 := Lib.hid hT12
        have HL12 := Lib.hid hL12
        have HTA12 := Lib.hid (HTA11.out.below (Nat.le_refl _) hb12)
        have HTB12 := Lib.hid (HTB11.out.below (Nat.le_refl _) hb12)
        clear hT12 hL12 hJ12 hb12
        go_wp2_with fail
        refine (same_any _ _ recs a (by omega) _ HT12.out HTA12.out).mono ?_
        rintro e w13 ⟨q1, rfl, hq1, hb13⟩
        have HQ1 := Lib.hid hq1
        have HT13 := Lib.hid (HT12.out.below (Nat.le_refl _) hb13)
        have HL13 := Lib.hid (HL12.out.below hb13)
        have HTA13 := Lib.hid (HTA12.out.below (Nat.le_refl _) hb13)
        have HTB13 := Lib.hid (HTB12.out.below (Nat.le_refl _) hb13)
        clear hq1 hb13
        have c0 : w13.drew.cell? ⟨go, oo, none⟩ = some (.string qo) := by
          obtain ⟨g, o, cp, hv, hc⟩ := HTB13.out.at_ (i := 0) (by simp)
          injection hv with hv1 _ _
          injection hv1 with hv1
          injection hv1 with e1 e2 _
          subst e1 e2
          rw [HQO.out]; exact hc
        have hgl : go < w13.drew.heap.size := World.block_lt_of_cell? _ ⟨go, oo, none⟩ c0
        have c1 : ((w13.alloc (.cells #[Value.string qo] 9)).drew).cell? ⟨go, oo, none⟩ = some (.string qo) := (World.cell?_alloc_lt w13 (.cells #[Value.string qo] 9) ⟨go, oo, none⟩ hgl).trans c0
        have TA0 := Lib.hid (HTA13.out.below (w' := w13.drew) (Nat.le_refl _) (Below.refl _ _).drew)
        have BA1 := Lib.hid (((Below.refl w13.heap.size w13).alloc (Nat.le_refl _) (.cells #[Value.string qo] 9)).drew)
        have TA1 := Lib.hid (HTA13.out.below (Nat.le_refl _) BA1.out)
        have N1 := Lib.hid (heap_alloc_new w13 (.cells #[Value.string qo] 9))
        have hlt1 : w13.heap.size < ((w13.alloc (.cells #[Value.string qo] 9)).drew).heap.size := lt_of_heap (g := w13.heap.size) N1.out
        go_wp2_with fail
        have hal2 : a.length ≤ 1000000 := by have := HSA.out.2.1; omega
        have hrl2 : recs.length ≤ 1000000 := by omega
        go_region_held_law (fun v => v.cell? ⟨go, oo, none⟩ = some (.string qo)) (first | exact c0 | exact c1 | exact c14 | exact c14a | exact c15 | exact c16) (first | (refine step_append_texts rfl (.const (Value.slice none 0 0)) (.tmp 89) rfl rfl (.slice ba a.length capa) a rfl TA0.out hal2 (some 90) rfl ?_; intro u w14 ho14 hb14; have c14 := (hb14.out.cell (p := ⟨go, oo, none⟩) hgl).trans c0; have c14a := (World.cell?_alloc_lt w14 (.cells #[Value.string qo] 9) ⟨go, oo, none⟩ (World.block_lt_of_cell? _ ⟨go, oo, none⟩ c14)).trans c14; have N14 := Lib.hid (heap_alloc_new w14 (.cells #[Value.string qo] 9)); have B14 := Lib.hid ((((Below.refl w13.heap.size w13).drew.trans hb14.out).alloc (hb14.out.size) (.cells #[Value.string qo] 9))); have O14 := Lib.hid (ho14.out.alloc (.cells #[Value.string qo] 9))) | (refine step_append_texts rfl (.const (Value.slice none 0 0)) (.tmp 89) rfl rfl (.slice ba a.length capa) a rfl TA1.out hal2 (some 90) rfl ?_; intro u w14 ho14 hb14; have c14 := (hb14.out.cell (p := ⟨go, oo, none⟩) (Nat.lt_trans hgl hlt1)).trans c1; have N14 := Lib.hid ((hb14.out.block _ hlt1).trans N1.out); have B14 := Lib.hid (BA1.out.trans (hb14.out.mono (Nat.le_of_lt hlt1))); have O14 := ho14) | (refine step_append_one rfl (.tmp 90) (.tmp 94) rfl u rfl w13.heap.size rfl (some 95) rfl a one qo HQO.out _ O14.out hb14.out.size N14.out hal2 ?_; intro v15 w15 ht15 hb15; have B15 := Lib.hid (B14.out.trans (hb15.out.mono (Nat.le_of_lt hlt1))); have c15 := (B15.out.cell (p := ⟨go, oo, none⟩) hgl).trans c0) | (refine step_append_one rfl (.tmp 90) (.tmp 94) rfl u rfl w14.heap.size rfl (some 95) rfl a one qo HQO.out w13.drew.heap.size O14.out B14.out.size N14.out hal2 ?_; intro v15 w15 ht15 hb15; have B15 := Lib.hid (B14.out.trans hb15.out); have c15 := (B15.out.cell (p := ⟨go, oo, none⟩) hgl).trans c0) | (go_simp; go_at_call 26; refine (same_any _ _ recs (a ++ [one]) hrl2 _ (HT13.out.below (Nat.le_refl _) B15.out) ht15.out).mono ?_; rintro e w16 ⟨q2, rfl, hq2, hb16⟩; have HQ2 := Lib.hid hq2; have B16 := Lib.hid (B15.out.trans (hb16.mono B15.out.size)); have c16 := (B16.out.cell (p := ⟨go, oo, none⟩) hgl).trans c0; clear hq2 hb16))
        all_goals
          have hend := Lib.hid (HB1.out.trans ((HL13.out.old.trans (B16.out.mono HL13.out.old.size)).mono HB1.out.size))
          obtain rfl : q2 = true := HQ2.out.2 HRC.out
          go_wp2_with fail
          go_ret
          exact ⟨rfl, hend.out⟩
      · as_aux_lemma =>
        obtain ⟨recs, hJO, hrc⟩ : ∃ recs, JOn (lost st8 (Dk.keptAt keep (Dk.clamp t))) 0 32 0 1 recs ∧ (recs = a ++ [one] ∨ recs = a) := by
          rcases hlost (Dk.keptAt keep (Dk.clamp t)) with h | h
          · exact ⟨_, h, Or.inr rfl⟩
          · exact ⟨_, h, Or.inl rfl⟩
        have HW8 := Lib.hid hWA.1
        clear hlost hWA
        obtain ⟨F0, hF0, hD0, hG0⟩ := hD.least
        have HG := Lib.hid (hG0 _ _ HW8.out)
        have HO0 := Lib.hid (show Own w1 p F0 w8 from ⟨HO8.out.old, HO8.out.pn, fun x hx => HO8.out.fn x (hF0 x hx)⟩)
        have HAA0 := Lib.hid (show Aw (.slice ba a.length capa) p j F0 from fun g hg => ⟨(HAA8.out g hg).1, fun hm => (HAA8.out g hg).2 (hF0 _ hm)⟩)
        have HAB0 := Lib.hid (show Aw (.slice (some ⟨go, oo, none⟩) [one].length capo) p j F0 from fun g hg => ⟨(HAB8.out g hg).1, fun hm => (HAB8.out g hg).2 (hF0 _ hm)⟩)
        have hrl : recs.length ≤ 9 := by
          have := HSA.out.2.1
          rcases hrc with rfl | rfl
          · simp; omega
          · omega
        have HRC := Lib.hid hrc
        have HJO := Lib.hid hJO
        have HD8 := Lib.hid hD0
        have HFC := Lib.hid (And.intro hFit8.a0 hAc8)
        clear hrc hJO hD hD0 hF0 hG0 hFit8 hAc8 hM8 hOk8
        unfold faultV
        go_wp2_with (first | (go_at_call 30; refine (Gone_any p true _ _ _ HD8.out.pow).mono ?_; rintro e w' ⟨rfl, rfl⟩) | fail)
        refine (on_again HD8.out HO0.out).mono ?_
        rintro e w10 ⟨rfl, hD10, hO10, hk10⟩
        have HD10 := Lib.hid hD10
        have HO10 := Lib.hid hO10
        have HTA10 := Lib.hid (HTA8.out.kp hk10 HAA0.out)
        have HTB10 := Lib.hid (HTB8.out.kp hk10 HAB0.out)
        have HW10 := Lib.hid ((hk10.block _ (lt_of_heap HW8.out) (by simpa using HG.out.2)).trans HW8.out)
        clear hD10 hO10 hk10
        have HLO := Lib.hid (lose_it (c := 100) HD10.out rfl HFC.out.1 (by have h1 := HFC.out.2; have h2 := HL6.out.jd.a1; show st8.acts ≤ _; have h3 : st8.acts ≤ st.acts + 10000 := h1; omega) HO10.out kv kb ko ks keep t (HY.out.keep (fun k hk => (HB1.out.trans (HO10.out.old.mono HB1.out.size)).block k (HKS.out k hk))) (fun k hk => by
          have g1 := HKS.out k hk
          have g2 := HB1.out.size
          have g3 := HO10.out.old.size
          exact ⟨by omega, fun hm => by have := HO10.out.fn k hm; omega⟩))
        go_wp2_with fail
        refine HLO.out.mono ?_
        rintro e w11 ⟨rfl, st11, hL11, hv11, hk11⟩
        have HL11 := Lib.hid hL11
        have HJO11 := Lib.hid (show JOn st11.view 0 32 0 1 recs by rw [hv11]; exact HJO.out)
        have HTA11 := Lib.hid (HTA10.out.kf hk11 HAA0.out)
        have HTB11 := Lib.hid (HTB10.out.kf hk11 HAB0.out)
        have HW11 := Lib.hid ((hk11.block _ (lt_of_heap HW10.out) HG.out.1).trans HW10.out)
        clear hL11 hv11 hk11 HLO
        go_wp2_with fail
        refine (HL11.out.open_on HJO11.out 0 64 rfl rfl (by omega) (by omega)).mono ?_
        rintro e w12 ⟨k, v12, rfl, hT12, _, hL12, hJ12, hb12⟩
        obtain ⟨b12, cap12, rfl⟩ := hT12.slice
        have HT12 := Lib.hid hT12
        have HL12 := Lib.hid hL12
        have HTA12 := Lib.hid (HTA11.out.below (Nat.le_refl _) hb12)
        have HTB12 := Lib.hid (HTB11.out.below (Nat.le_refl _) hb12)
        have HW12 := Lib.hid ((hb12.block _ (lt_of_heap HW11.out)).trans HW11.out)
        clear hT12 hL12 hJ12 hb12
        go_wp2_with fail
        refine (same_any _ _ recs a (by omega) _ HT12.out HTA12.out).mono ?_
        rintro e w13 ⟨q1, rfl, hq1, hb13⟩
        have HQ1 := Lib.hid hq1
        have HT13 := Lib.hid (HT12.out.below (Nat.le_refl _) hb13)
        have HL13 := Lib.hid (HL12.out.below hb13)
        have HTA13 := Lib.hid (HTA12.out.below (Nat.le_refl _) hb13)
        have HTB13 := Lib.hid (HTB12.out.below (Nat.le_refl _) hb13)
        have HW13 := Lib.hid ((hb13.block _ (lt_of_heap HW12.out)).trans HW12.out)
        clear hq1 hb13
        have c0 : w13.drew.cell? ⟨go, oo, none⟩ = some (.string qo) := by
          obtain ⟨g, o, cp, hv, hc⟩ := HTB13.out.at_ (i := 0) (by simp)
          injection hv with hv1 _ _
          injection hv1 with hv1
          injection hv1 with e1 e2 _
          subst e1 e2
          rw [HQO.out]; exact hc
        have hgl : go < w13.drew.heap.size := World.block_lt_of_cell? _ ⟨go, oo, none⟩ c0
        have c1 : ((w13.alloc (.cells #[Value.string qo] 9)).drew).cell? ⟨go, oo, none⟩ = some (.string qo) := (World.cell?_alloc_lt w13 (.cells #[Value.string qo] 9) ⟨go, oo, none⟩ hgl).trans c0
        have TA0 := Lib.hid (HTA13.out.below (w' := w13.drew) (Nat.le_refl _) (Below.refl _ _).drew)
        have BA1 := Lib.hid (((Below.refl w13.heap.size w13).alloc (Nat.le_refl _) (.cells #[Value.string qo] 9)).drew)
        have TA1 := Lib.hid (HTA13.out.below (Nat.le_refl _) BA1.out)
        have N1 := Lib.hid (heap_alloc_new w13 (.cells #[Value.string qo] 9))
        have hlt1 : w13.heap.size < ((w13.alloc (.cells #[Value.string qo] 9)).drew).heap.size := lt_of_heap (g := w13.heap.size) N1.out
        go_wp2_with fail
        have hal2 : a.length ≤ 1000000 := by have := HSA.out.2.1; omega
        have hrl2 : recs.length ≤ 1000000 := by omega
        go_region_held_law (fun v => v.cell? ⟨go, oo, none⟩ = some (.string qo)) (first | exact c0 | exact c1 | exact c14 | exact c14a | exact c15 | exact c16) (first | (refine step_append_texts rfl (.const (Value.slice none 0 0)) (.tmp 89) rfl rfl (.slice ba a.length capa) a rfl TA0.out hal2 (some 90) rfl ?_; intro u w14 ho14 hb14; have c14 := (hb14.out.cell (p := ⟨go, oo, none⟩) hgl).trans c0; have c14a := (World.cell?_alloc_lt w14 (.cells #[Value.string qo] 9) ⟨go, oo, none⟩ (World.block_lt_of_cell? _ ⟨go, oo, none⟩ c14)).trans c14; have N14 := Lib.hid (heap_alloc_new w14 (.cells #[Value.string qo] 9)); have B14 := Lib.hid ((((Below.refl w13.heap.size w13).drew.trans hb14.out).alloc (hb14.out.size) (.cells #[Value.string qo] 9))); have O14 := Lib.hid (ho14.out.alloc (.cells #[Value.string qo] 9))) | (refine step_append_texts rfl (.const (Value.slice none 0 0)) (.tmp 89) rfl rfl (.slice ba a.length capa) a rfl TA1.out hal2 (some 90) rfl ?_; intro u w14 ho14 hb14; have c14 := (hb14.out.cell (p := ⟨go, oo, none⟩) (Nat.lt_trans hgl hlt1)).trans c1; have N14 := Lib.hid ((hb14.out.block _ hlt1).trans N1.out); have B14 := Lib.hid (BA1.out.trans (hb14.out.mono (Nat.le_of_lt hlt1))); have O14 := ho14) | (refine step_append_one rfl (.tmp 90) (.tmp 94) rfl u rfl w13.heap.size rfl (some 95) rfl a one qo HQO.out _ O14.out hb14.out.size N14.out hal2 ?_; intro v15 w15 ht15 hb15; have B15 := Lib.hid (B14.out.trans (hb15.out.mono (Nat.le_of_lt hlt1))); have c15 := (B15.out.cell (p := ⟨go, oo, none⟩) hgl).trans c0) | (refine step_append_one rfl (.tmp 90) (.tmp 94) rfl u rfl w14.heap.size rfl (some 95) rfl a one qo HQO.out w13.drew.heap.size O14.out B14.out.size N14.out hal2 ?_; intro v15 w15 ht15 hb15; have B15 := Lib.hid (B14.out.trans hb15.out); have c15 := (B15.out.cell (p := ⟨go, oo, none⟩) hgl).trans c0) | (go_simp; go_at_call 26; refine (same_any _ _ recs (a ++ [one]) hrl2 _ (HT13.out.below (Nat.le_refl _) B15.out) ht15.out).mono ?_; rintro e w16 ⟨q2, rfl, hq2, hb16⟩; have HQ2 := Lib.hid hq2; have B16 := Lib.hid (B15.out.trans (hb16.mono B15.out.size)); have c16 := (B16.out.cell (p := ⟨go, oo, none⟩) hgl).trans c0; clear hq2 hb16))
        all_goals
          have hend := Lib.hid (HB1.out.trans ((HL13.out.old.trans (B16.out.mono HL13.out.old.size)).mono HB1.out.size))
          have hqq : q2 = true ∨ (q2 = false ∧ q1 = true) := by
            rcases HRC.out with h | h
            · exact Or.inl (HQ2.out.2 h)
            · cases q2
              · exact Or.inr ⟨rfl, HQ1.out.2 h⟩
              · exact Or.inl rfl
          have CEI := Lib.hid (errorsIs_cell g' 10 w16 (by rw [cell_of_list ((B16.out.block _ (lt_of_heap HW13.out)).trans HW13.out)]; rfl))
          rcases hqq with rfl | ⟨rfl, rfl⟩
          · go_wp2_with (go_at_call 33; refine CEI.out.mono ?_; rintro e w' ⟨rfl, rfl⟩)
            go_ret
            exact ⟨rfl, hend.out⟩
          · go_wp2_with (go_at_call 33; refine CEI.out.mono ?_; rintro e w' ⟨rfl, rfl⟩)
            go_ret
            exact ⟨rfl, hend.out⟩
end Go.Proofs.YtfancfladdecjaaGreatDoor
