/- The walks of what the statements use: a rack, texts, picks, errors, lists that are the same. -/
import Derived.Test.YtmobjpandmdmdaaGreatDoorJFormat
namespace Go.Proofs.YtmobjpandmdmdaaGreatDoor
open Go.RowKit Go.Extern.Stop Go.Stop Go.Extern

/-- A disk that a call made itself, at a power without a fuse. -/
structure Lw (w0 : World) (d p n : Nat) (F : List Nat) (st : St) (c : Nat) (w : World) : Prop where
  jd : Jd d p n F st c w
  old : Below w0.heap.size w0 w
  pn : w0.heap.size ≤ p
  fn : ∀ x ∈ F, w0.heap.size ≤ x
section
variable {w0 : World} {d p n : Nat} {F F' : List Nat} {st st' : St} {c c' : Nat} {w w' : World}
theorem Lw.below (h : Lw w0 d p n F st c w) (hb : Below w.heap.size w w') : Lw w0 d p n F st c w' := ⟨h.jd.below hb, h.old.trans (hb.mono h.old.size), h.pn, h.fn⟩
theorem Lw.mv {X : List Nat} (h : Lw w0 d p n F st c w) (hJ : Jd d p n F' st' c' w') (hM : Mv X F F' w w') (hX : ∀ x ∈ X, w0.heap.size ≤ x) : Lw w0 d p n F' st' c' w' := by
  have hz := h.old.size
  refine ⟨hJ, h.old.trans ((hM.kept.mono hz (fun _ _ hm => hm)).below (fun k hk => ?_)), h.pn, fun x hx => ?_⟩
  · rcases List.mem_append.1 hk with h1 | h1
    · exact hX k h1
    · exact h.fn k h1
  · rcases hM.foot x hx with h1 | h1
    · exact h.fn x h1
    · omega
end
theorem jrack_ok (w : World) : Calls Tryz.prog 5 #[] w fun e w' => ∃ p d F st, e = .returned (.tuple #[.pointer (some ⟨p, 0, none⟩), .pointer (some ⟨d, 0, none⟩)]) ∧ Lw w d p 64 F st 0 w' := by
  go_enter Tryz.func5, Tryz.ntmps5
  go_wp2_with fail
  refine (NewPower_any _).mono ?_
  rintro e w1 ⟨p, hp, rfl, hP, hb1⟩
  have HP := Lib.hid hP
  have HB := Lib.hid hb1
  clear hP hb1
  go_wp2_with fail
  refine (New_ok p false (-1) 0 64 (by omega) (by omega) _ HP.out).mono ?_
  rintro e w2 ⟨d, F, rfl, hL, hF, hb2⟩
  have HL := Lib.hid hL
  have HF := Lib.hid hF
  have HB2 := Lib.hid hb2
  clear hL hF hb2
  go_wp2_with fail
  go_ret2
  have hz := HB.out.size
  exact ⟨p, d, F, ⟨blankS 64, [], -1, 0⟩, rfl, ⟨⟨⟨HL.out, HP.out.keep (HB2.out.block p HP.out.lt)⟩, rfl, rfl, Int.le_refl _, by simp⟩, HB.out.trans (HB2.out.mono hz), hp, fun x hx => Nat.le_trans hz (HF.out x hx)⟩⟩
theorem text_is (k : Nat) (hk : k ≤ 100000) (w : World) : Calls Tryz.prog 7 #[.int .i64 k] w fun e w' => e = .returned (.string (bs (Fr.zero k))) ∧ Below w.heap.size w w' := by
  have hl : (Fr.zero k).length = k := Fr.length_zero k
  have HL := Lib.hid hl
  clear hl
  go_enter Tryz.func7, Tryz.ntmps7
  go_wp2_with (first | (refine wpList_make_zb rfl _ _ rfl k (by omega) rfl rfl ?_; intro w3 h3 b3 s3; have R3 := Lib.hid (range_of_list h3.out); go_frame) | (refine wpList_bytes_string rfl 57 9 _ rfl 5 w.heap.size 0 k k rfl (Fr.zero k) HL.out Tryz.underlying57 Tryz.underlying5 Tryz.underlying9 R3.out ?_; go_frame) | fail)
  go_ret
  exact ⟨by rw [← bs_eq]; rfl, b3.out⟩
set_option maxHeartbeats 1000000 in
theorem is_12 (g : Nat) (w : World) (h : FaultAt g 12 0 w) :
    Calls Tryz.prog 13 #[.iface 82 (.pointer (some ⟨g, 0, none⟩)), .int .i64 12] w fun e w' => e = .returned (.bool true) ∧ w = w' := by
  have c0 : w.cell? ⟨g, 0, none⟩ = some (.int .i64 12) := by rw [cell_of_list h]; rfl
  have c1 : w.cell? ⟨g, 1, none⟩ = some (.int .i64 0) := by rw [cell_of_list h]; rfl
  have c2 : w.cell? ⟨g, 2, none⟩ = some .nilIface := by rw [cell_of_list h]; rfl
  have af := assert_fault
  have H := Lib.hid h
  clear h
  go_enter Tryz.func13, Tryz.ntmps13
  go_wp2_with (go_at_call 39; refine (errorsIs_true g 12 0 _ H.out).mono ?_; rintro e w' ⟨rfl, rfl⟩)
  go_ret
  exact ⟨rfl, rfl⟩
/-- Some texts of a list, cut. -/
def cutAll (l : List (List UInt8)) (many long : Nat) : List (List UInt8) := (l.take many).map fun s => s.take long
theorem cutAll_zero (l : List (List UInt8)) (long : Nat) : cutAll l 0 long = [] := by simp [cutAll]
theorem cutAll_succ {l : List (List UInt8)} {i : Nat} (long : Nat) (h : i < l.length) : cutAll l (i + 1) long = cutAll l i long ++ [(l.getD i []).take long] := by
  rw [cutAll, List.take_succ_eq_append_getElem h, List.map_append, List.getD, List.getElem?_eq_getElem h]; rfl
theorem length_cutAll (l : List (List UInt8)) (n long : Nat) : (cutAll l n long).length ≤ n := by rw [cutAll, List.length_map, List.length_take]; omega
theorem length_cutAll' {l : List (List UInt8)} {n : Nat} (long : Nat) (h : n ≤ l.length) : (cutAll l n long).length = n := by rw [cutAll, List.length_map, List.length_take]; omega
theorem cutAll_short (l : List (List UInt8)) (n long : Nat) : ∀ s ∈ cutAll l n long, s.length ≤ long := fun s hs => by
  obtain ⟨t, _, rfl⟩ := List.mem_map.1 hs
  rw [List.length_take]; omega
theorem cutAll_all {l : List (List UInt8)} {n m : Nat} (long : Nat) (h : l.length ≤ n) (hm : l.length ≤ m) : cutAll l n long = cutAll l m long := by
  rw [cutAll, cutAll, List.take_of_length_le h, List.take_of_length_le hm]
/-- A list of texts that a statement is given. -/
def Given (v : Value) (l : List (List UInt8)) (w : World) : Prop := (l = [] ∧ ∃ b cap, v = .slice b 0 cap) ∨ Texts v l w
theorem Given.slice {v : Value} {l : List (List UInt8)} {w : World} (h : Given v l w) : ∃ b cap, v = .slice b l.length cap := by
  rcases h with ⟨rfl, h⟩ | h
  · exact h
  · exact h.slice
theorem Given.below {v : Value} {l : List (List UInt8)} {w w' : World} (h : Given v l w) {B : Nat} (hB : w.heap.size ≤ B) (hb : Below B w w') : Given v l w' := by
  rcases h with h | h
  · exact Or.inl h
  · exact Or.inr (h.below hB hb)
set_option maxRecDepth 100000 in
set_option maxHeartbeats 2000000 in
theorem same_is (v1 v2 : Value) (l : List (List UInt8)) (hll : l.length ≤ 1000000) (w : World) (h1 : Texts v1 l w) (h2 : Texts v2 l w) :
    Calls Tryz.prog 16 #[v1, v2] w fun e w' => e = .returned (.bool true) ∧ Below w.heap.size w w' := by
  obtain ⟨b1, cap1, rfl⟩ := h1.slice
  obtain ⟨b2, cap2, rfl⟩ := h2.slice
  have H1 := Lib.hid h1
  have H2 := Lib.hid h2
  clear h1 h2
  go_enter Tryz.func16, Tryz.ntmps16
  go_wp2_with fail
  go_loopw [5] (fun iv wr => ∃ k : Nat, k ≤ l.length ∧ iv = .int .i64 k ∧ Below w.heap.size w wr) (fun iv _ => l.length - (intOf iv).toNat)
  case atStart => exact ⟨0, by omega, rfl, Below.refl _ _⟩
  case round =>
    obtain ⟨k, hk, rfl, hB⟩ := hrel
    by_cases hlt : k < l.length
    · rcases H1.out with ⟨_, h0⟩ | ⟨g1, o1, c1, hv1, hg1, hc1⟩
      · rw [h0] at hlt; simp at hlt
      rcases H2.out with ⟨_, h0⟩ | ⟨g2, o2, c2, hv2, hg2, hc2⟩
      · rw [h0] at hlt; simp at hlt
      injection hv1 with hv1 _ hv3
      injection hv2 with hv4 _ hv6
      subst hv1 hv4
      have e1 := (hB.cell (p := ⟨g1, o1 + k, none⟩) hg1).trans (hc1 k hlt)
      have e2 := (hB.cell (p := ⟨g2, o2 + k, none⟩) hg2).trans (hc2 k hlt)
      unfold strv at e1 e2
      obtain ⟨x, hx⟩ : ∃ x, x = bs (l.getD k []) := ⟨_, rfl⟩
      rw [← hx] at e1 e2
      have d1 : wr.drew.cell? ⟨g1, o1 + k, none⟩ = some (.string x) := e1
      have d2 : wr.drew.cell? ⟨g2, o2 + k, none⟩ = some (.string x) := e2
      have HB := Lib.hid hB
      clear hB hx hc1 hc2 hv3 hv6
      go_wp2_with fail
      go_region
      all_goals
        go_wp2_with fail
        go_roundw
        case rel => exact ⟨k + 1, by omega, by go_num, HB.out.drew⟩
        case measure => simp [intOf]; omega
    · have HB := Lib.hid hB
      clear hB
      go_wp2_with fail
      go_ret
      exact ⟨rfl, HB.out⟩
set_option maxRecDepth 100000 in
set_option maxHeartbeats 2000000 in
theorem Append_full (d from_ m a e n u j : Nat) (r : List UInt8) (hr : r.length ≤ 60000) (hu : u ≤ m) (hm : m ≤ 8192) (hfull : m - u < secs r) (w : World) (hJ : JAt j d from_ m a e n u false w) :
    Calls Tryz.prog 21 #[.pointer (some ⟨j, 0, none⟩), .string (bs r)] w (Refused 12 0 id w) := by
  have CF := Lib.hid (fun (v : World) (vv : Value) (hT : Texts vv [r] v) => fit_full (m - u) vv [r] (by intro q hq; simp at hq; rw [hq]; exact hr) (by simp) (by rw [secsAll_cons, secsAll_nil]; omega) v hT)
  have CL := Lib.hid (fun (v : World) (hv : Below w.heap.size w v) => Left_is j d from_ m a e n u false hu hm v (hJ.keep (hv.block j hJ.lt)))
  obtain ⟨c0, c1, c2, c3, c4, c5, c6, c7⟩ := hJ.cells
  obtain ⟨q, hq⟩ : ∃ q, q = bs r := ⟨_, rfl⟩
  have HQ := Lib.hid hq
  rw [← hq]
  clear hJ hq
  go_enter Tryz.func21, Tryz.ntmps21
  go_wp2_with (first | (go_at_call 17; refine (CL.out _ (Below.refl _ _)).mono ?_; rintro e w1 ⟨rfl, hb1⟩; have HB1 := Lib.hid hb1; clear hb1) | fail)
  refine (CF.out _ _ (texts_one w1 HQ.out)).mono ?_
  rintro e w2 ⟨g, hg, rfl, hf, hb2⟩
  have hz1 := HB1.out.size
  have HF := Lib.hid hf
  have HB2 := Lib.hid ((HB1.out.alloc hz1 _).trans (hb2.mono (by simp; omega)))
  clear hf hb2
  go_wp2_with fail
  go_ret
  exact ⟨g, by simp at hg; omega, rfl, HF.out, HB2.out⟩
theorem textsBlock_own (v : Value) : textsBlock v = v.ownBlock := by
  cases v with
  | slice a _ _ => cases a <;> rfl
  | _ => rfl
theorem Texts.mv {v : Value} {l : List (List UInt8)} {w w' : World} {X F F' : List Nat} (h : Texts v l w) (hM : Mv X F F' w w') (hX : ∀ g, textsBlock v = some g → g ∉ X ∧ g ∉ F) : Texts v l w' :=
  h.keep hM.size (fun g hg => hM.block (h.lt hg) (hX g hg).1 (hX g hg).2)
/-- A journal on the disk. -/
structure Jrn (w0 : World) (d p : Nat) (F : List Nat) (st : St) (j from_ m act ep : Nat) (recs : List (List UInt8)) (w : World) : Prop where
  at_ : JAt j d from_ m act ep (1 + recs.length) (1 + secsAll recs) false w
  on : JOn st.view from_ m act ep recs
  jF : j ∉ F
  jp : j ≠ p
  jn : w0.heap.size ≤ j
theorem Jrn.below {w0 : World} {d p : Nat} {F : List Nat} {st : St} {j from_ m act ep : Nat} {recs : List (List UInt8)} {w w' : World} (h : Jrn w0 d p F st j from_ m act ep recs w) (hb : Below w.heap.size w w') : Jrn w0 d p F st j from_ m act ep recs w' :=
  ⟨h.at_.keep (hb.block j h.at_.lt), h.on, h.jF, h.jp, h.jn⟩
/-- What is not of the disk's blocks stays so. -/
theorem Mv.away {X F F' : List Nat} {w w' : World} (h : Mv X F F' w w') {g : Nat} (hg : g < w.heap.size) (hF : g ∉ F) : g ∉ F' := fun hm => by
  rcases h.foot g hm with h1 | h1
  · exact hF h1
  · omega
/-- Another journal, on other sectors, is as it was. -/
theorem Jrn.other {w0 : World} {d p : Nat} {F F' : List Nat} {st st' : St} {j from_ m act ep : Nat} {recs : List (List UInt8)} {w w' : World} {X : List Nat} (h : Jrn w0 d p F st j from_ m act ep recs w) (hM : Mv X F F' w w') (hX : j ∉ X) (hm : 1 ≤ m) (hV : ∀ x, from_ ≤ x → x < from_ + 2 * m → st'.view x = st.view x) : Jrn w0 d p F' st' j from_ m act ep recs w' :=
  ⟨h.at_.keep (hM.block h.at_.lt hX h.jF), h.on.congr hm hV, hM.away h.at_.lt h.jF, h.jp, h.jn⟩
section
variable {w0 : World} {d p n : Nat} {F : List Nat} {st : St} {c : Nat} {w : World}
theorem Lw.format (h : Lw w0 d p n F st c w) (from_ m : Nat) (fi si : Int) (hfi : fi = from_) (hsi : si = (2 * m : Nat)) (hm : from_ + 2 * m ≤ n) (hm2 : 2 ≤ m) (hc : c ≤ 100000) :
    Calls Tryz.prog 12 #[.pointer (some ⟨d, 0, none⟩), .int .i64 fi, .int .i64 si] w fun e w' => ∃ j F' st', w.heap.size ≤ j ∧ e = .returned (.tuple #[.pointer (some ⟨j, 0, none⟩), .nilIface]) ∧ Lw w0 d p n F' st' (c + 2) w' ∧ Jrn w0 d p F' st' j from_ m 0 1 [] w' ∧
      (∀ x, x < from_ ∨ from_ + 2 * m ≤ x → st'.view x = st.view x) ∧ Mv [p] F F' w w' := by
  refine (Format_free d p n F st c from_ m fi si hfi hsi hm hm2 hc w h.jd).mono ?_
  rintro e w' ⟨j, F', st', hj, rfl, hjF, hD, hA, hO, hV, hM⟩
  have hz := h.old.size
  have hp := h.jd.dsk.pow.lt
  exact ⟨j, F', st', hj, rfl, h.mv hD hM (fun x hx => by simp at hx; rw [hx]; exact h.pn), ⟨by rw [secsAll_nil]; exact hA, hO, hjF, by omega, by omega⟩, hV, hM⟩
theorem Lw.append (h : Lw w0 d p n F st c w) {j from_ m act ep : Nat} {recs : List (List UInt8)} (hj : Jrn w0 d p F st j from_ m act ep recs w) (r : List UInt8) (hm : from_ + 2 * m ≤ n) (hc : c ≤ 1000000) (hr : r.length ≤ 60000) (hfit : 1 + secsAll recs + secs r ≤ m) :
    Calls Tryz.prog 21 #[.pointer (some ⟨j, 0, none⟩), .string (bs r)] w fun e w' => e = .returned .nilIface ∧ ∃ F' st', Lw w0 d p n F' st' (c + 1) w' ∧ Jrn w0 d p F' st' j from_ m act ep (recs ++ [r]) w' ∧
      (∀ x, x < from_ ∨ from_ + 2 * m ≤ x → st'.view x = st.view x) ∧ Mv [p, j] F F' w w' := by
  refine (Append_free d p n F st c from_ m act ep recs j r hm hc hr hfit w h.jd hj.at_ hj.on hj.jF hj.jp).mono ?_
  rintro e w' ⟨rfl, F', st', hD, hA, hO, hV, hM⟩
  exact ⟨rfl, F', st', h.mv hD hM (fun x hx => by
    simp only [List.mem_cons, List.not_mem_nil, or_false] at hx
    rcases hx with rfl | rfl
    · exact h.pn
    · exact hj.jn), ⟨hA, hO, hM.away hj.at_.lt hj.jF, hj.jp, hj.jn⟩, hV, hM⟩
theorem Lw.reset (h : Lw w0 d p n F st c w) {j from_ m act ep : Nat} {recs0 : List (List UInt8)} (hj : Jrn w0 d p F st j from_ m act ep recs0 w) (v : Value) (recs : List (List UInt8)) (hm : from_ + 2 * m ≤ n) (hc : c ≤ 1000000) (hep : ep + 1 ≤ 4611686018427387904) (hr : ∀ r ∈ recs, r.length ≤ 60000) (hfit : 1 + secsAll recs ≤ m) (hT : Texts v recs w) :
    Calls Tryz.prog 22 #[.pointer (some ⟨j, 0, none⟩), v] w fun e w' => e = .returned .nilIface ∧ ∃ F' st', Lw w0 d p n F' st' (c + 1) w' ∧ Jrn w0 d p F' st' j from_ m (1 - act) (ep + 1) recs w' ∧
      (∀ x, x < from_ ∨ from_ + 2 * m ≤ x → st'.view x = st.view x) ∧ Mv [p, j] F F' w w' := by
  refine (Reset_free d p n F st c from_ m act ep _ _ recs j v hm hc hj.on.a1 hep hr hfit w h.jd.jp hj.at_ ⟨ep, by rw [hj.on.head]; exact epoch_head ep hj.on.e1 hj.on.e2, by omega⟩ hj.jF hj.jp hT).mono ?_
  rintro e w' ⟨rfl, F', st', hD, hA, hO, hV, hM⟩
  exact ⟨rfl, F', st', h.mv hD hM (fun x hx => by
    simp only [List.mem_cons, List.not_mem_nil, or_false] at hx
    rcases hx with rfl | rfl
    · exact h.pn
    · exact hj.jn), ⟨hA, hO, hM.away hj.at_.lt hj.jF, hj.jp, hj.jn⟩, hV, hM⟩
theorem Lw.open_ (h : Lw w0 d p n F st c w) {j from_ m act ep : Nat} {recs : List (List UInt8)} (hj : Jrn w0 d p F st j from_ m act ep recs w) (fi si : Int) (hfi : fi = from_) (hsi : si = (2 * m : Nat)) (hm : from_ + 2 * m ≤ n) (hm2 : 2 ≤ m) :
    Calls Tryz.prog 11 #[.pointer (some ⟨d, 0, none⟩), .int .i64 fi, .int .i64 si] w fun e w' => ∃ k v, e = .returned (.tuple #[.pointer (some ⟨k, 0, none⟩), v, .nilIface]) ∧ Texts v recs w' ∧ (∀ g, textsBlock v = some g → w.heap.size ≤ g) ∧ Lw w0 d p n F st c w' ∧ Jrn w0 d p F st j from_ m act ep recs w' ∧ Below w.heap.size w w' := by
  refine (Open_is d p n F st c from_ m act ep recs fi si hfi hsi hm hm2 w h.jd hj.on).mono ?_
  rintro e w' ⟨k, v, hk, rfl, hD, hA, hown, hb⟩
  exact ⟨k, v, rfl, Texts.of_own hown, fun g hg => (hown.lt g (by rw [← textsBlock_own]; exact hg)).1, h.below hb, hj.below hb, hb⟩
end
end Go.Proofs.YtmobjpandmdmdaaGreatDoor
