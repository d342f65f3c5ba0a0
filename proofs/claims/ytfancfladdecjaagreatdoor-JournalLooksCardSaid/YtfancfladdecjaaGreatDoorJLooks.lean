/- The walk of JournalLooks. -/
import Derived.Test.YtfancfladdecjaaGreatDoorJCrash
import Derived.Test.YtfancfladdecjaaGreatDoorJAnew
namespace Go.Proofs.YtfancfladdecjaaGreatDoor
open Go.RowKit

theorem record_is (e n : Nat) (ei ni : Int) (p : List UInt8) (hei : ei = e) (hni : ni = n) (he : e ≤ 4611686018427387904) (hn : n ≤ 4294967295) (hp : p.length ≤ 60000) (w : World) :
    Calls Tryz.prog 34 #[.int .i64 ei, .int .i64 ni, .string (bs p)] w fun r w' => r = .returned (.string (bs (Fr.record e n p))) ∧ Below w.heap.size w w' := by
  subst hei hni
  have CP := Lib.hid (fun v : World => Pack_ok e n (bs p) he hn (by rw [bs_size]; exact hp) v)
  rw [bs_list] at CP
  obtain ⟨q, hq⟩ : ∃ q, q = bs (Fr.record e n p) := ⟨_, rfl⟩
  obtain ⟨s, hs⟩ : ∃ s, s = bs p := ⟨_, rfl⟩
  rw [← hq, ← hs] at CP
  rw [← hq, ← hs]
  clear hq hs
  go_enter Tryz.func34, Tryz.ntmps34
  go_wp2_with fail
  refine (CP.out _).mono ?_
  rintro r w1 ⟨rfl, hb⟩
  have HB := Lib.hid hb
  clear hb
  go_wp2_with fail
  go_ret
  exact ⟨rfl, HB.out⟩
theorem texts_two {r s : List UInt8} {q t : ByteArray} (w : World) (hq : q = bs r) (ht : t = bs s) : Texts (.slice (some ⟨w.heap.size, 0, none⟩) 2 2) [r, s] (w.alloc (.cells #[Value.string q, Value.string t] 9)) := by
  refine Texts.of_cells (fr := (0, 0)) (l := [r, s]) ?_ 2
  rw [hq, ht]
  exact heap_alloc_new _ _
theorem bs_app (a b : List UInt8) : bs a ++ bs b = bs (a ++ b) := bs_of (by rw [ByteArray.toList_data_append, bs_list, bs_list])
set_option maxRecDepth 100000 in
set_option maxHeartbeats 1500000 in
theorem Looks_walk (ez nz : Int) (ev : List UInt8) (fz : Int) (kv : Value) (kb ko : Nat) (ks : List Nat) (keep : List Bool) (t : Int) (hez : -9223372036854775808 ≤ ez ∧ ez ≤ 9223372036854775807) (hnz : -9223372036854775808 ≤ nz ∧ nz ≤ 9223372036854775807)
    (hfz : -9223372036854775808 ≤ fz ∧ fz ≤ 9223372036854775807) (w : World) (hE : ErrCell w) (hy : Yes kv kb ko ks keep w) (hks : ∀ k ∈ ks, k < w.heap.size) :
    Calls Tryz.prog 6 #[.int .i64 ez, .int .i64 nz, .string (bs ev), .int .i64 fz, kv, .int .i64 t] w fun e w' => e = .returned (.bool true) ∧ Below w.heap.size w w' := by
  obtain ⟨re, hre, hpe⟩ := pick_is ez 4 (by omega) (by omega) hez
  obtain ⟨rn, hrn, hpn⟩ := pick_is nz 4 (by omega) (by omega) hnz
  obtain ⟨r, hr, hpick⟩ := pick_is fz 12 (by omega) (by omega) hfz
  obtain ⟨x, hx⟩ : ∃ x, x = ev.take 30 := ⟨_, rfl⟩
  have hc1 : cutAll [ev] 1 30 = [x] := by rw [hx]; rfl
  have hxl : x.length ≤ 30 := by rw [hx, List.length_take]; omega
  obtain ⟨lk, hlk⟩ : ∃ l, l = Fr.record (1 + re) (1 + rn) x := ⟨_, rfl⟩
  have hlkl : lk.length = 64 := by rw [hlk, Fr.length_record]; unfold Fr.whole; omega
  obtain ⟨long, hlong⟩ : ∃ l, l = Fr.zero 40 ++ lk ++ lk ++ lk := ⟨_, rfl⟩
  have hll : long.length = 232 := by rw [hlong, List.length_append, List.length_append, List.length_append, hlkl, Fr.length_zero]
  have hsl : secs long = 4 := by rw [secs_eq, hll]
  obtain ⟨q40, h40⟩ : ∃ q, q = bs (Fr.zero 40) := ⟨_, rfl⟩
  obtain ⟨qk, hqk⟩ : ∃ q, q = bs lk := ⟨_, rfl⟩
  obtain ⟨qx, hqx⟩ : ∃ q, q = bs x := ⟨_, rfl⟩
  obtain ⟨qe, hqe⟩ : ∃ q, q = bs ev := ⟨_, rfl⟩
  have hcat : q40 ++ qk ++ qk ++ qk = bs long := by rw [h40, hqk, bs_app, bs_app, bs_app, hlong]
  have CR := Lib.hid (fun (v : World) => record_is (1 + re) (1 + rn) (1 + re) (1 + rn) x (by omega) (by omega) (by omega) (by omega) (by omega) v)
  have CT := Lib.hid (fun (v : World) => text_is 40 (by omega) v)
  have CB := Lib.hid (fun (vv : Value) (y : World) (hy : Given vv [ev] y) => texts_is vv [ev] 1 30 (by omega) (by simp) y hy)
  rw [hc1] at CB
  rw [← hlk, ← hqk, ← hqx] at CR
  rw [← h40] at CT
  rw [← hqe]
  have s40 : q40.size = 40 := by rw [h40, bs_size, Fr.length_zero]
  have sk : qk.size = 64 := by rw [hqk, bs_size, hlkl]
  have HSZ := Lib.hid (And.intro s40 sk)
  have HCAT := Lib.hid hcat
  have HQE := Lib.hid hqe
  have HQX := Lib.hid hqx
  have HLL := Lib.hid hll
  have HSL := Lib.hid hsl
  have HPE := Lib.hid hpe
  have HPN := Lib.hid hpn
  have HPI := Lib.hid hpick
  have HY := Lib.hid hy
  have HKS := Lib.hid hks
  have HE := Lib.hid hE
  clear hc1 hlk hlkl hlong hll hsl h40 hqk hqx hqe hcat s40 sk hx hpe hpn hpick hy hks hE
  go_enter Tryz.func6, Tryz.ntmps6
  go_wp2_with fail
  refine (jknown_true _).mono ?_
  rintro e w1 ⟨rfl, hb1⟩
  have HB1 := Lib.hid hb1
  have HE1 := Lib.hid (HE.out.below hb1)
  clear hb1
  go_wp2_with fail
  refine (jrack_ok _).mono ?_
  rintro e w2 ⟨p, d, F2, st2, rfl, hL2⟩
  have HL2 := Lib.hid hL2
  clear hL2
  go_wp2_with fail
  refine (HL2.out.format 0 32 0 64 rfl rfl (by omega) (by omega) (by omega)).mono ?_
  rintro e w3 ⟨j, F3, st3, hj3, rfl, hL3, hJ3, _, _⟩
  have HL3 := Lib.hid hL3
  have HJ3 := Lib.hid hJ3
  clear hL3 hJ3
  go_wp2_with fail
  have hba : Below w3.heap.size w3 (w3.alloc (.cells #[Value.string qe] 9)) := (Below.refl _ _).alloc (Nat.le_refl _) _
  refine (CB.out _ _ (Or.inr (texts_one w3 HQE.out))).mono ?_
  rintro e w4 ⟨vo, rfl, hown4, hb4⟩
  have hb4' : Below w3.heap.size w3 w4 := hba.trans (hb4.mono (by simp))
  obtain ⟨go, oo, capo, hvo, co4⟩ := (Texts.of_own (l := [x]) hown4).at_ (i := 0) (by simp)
  subst hvo
  rw [Nat.add_zero, show [x].getD 0 [] = x from rfl, ← HQX.out] at co4
  have HL4 := Lib.hid (HL3.out.below hb4')
  have HJ4 := Lib.hid (HJ3.out.below hb4')
  clear hown4 hb4 hb4' hba
  go_wp2_with fail
  refine (HPE.out _).mono ?_
  rintro e w' ⟨rfl, rfl⟩
  go_wp2_with fail
  refine (HPN.out _).mono ?_
  rintro e w' ⟨rfl, rfl⟩
  go_wp2_with fail
  refine (CR.out _).mono ?_
  rintro e w5 ⟨rfl, hb5⟩
  have HL5 := Lib.hid (HL4.out.below hb5)
  have HJ5 := Lib.hid (HJ4.out.below hb5)
  clear hb5
  go_wp2_with fail
  refine (CT.out _).mono ?_
  rintro e w6 ⟨rfl, hb6⟩
  have hs1 : ¬ 9223372036854775807 < q40.size + qk.size := by rw [HSZ.out.1, HSZ.out.2]; omega
  have hs2 : ¬ 9223372036854775807 < q40.size + qk.size + qk.size := by rw [HSZ.out.1, HSZ.out.2]; omega
  have hs3 : ¬ 9223372036854775807 < q40.size + qk.size + qk.size + qk.size := by rw [HSZ.out.1, HSZ.out.2]; omega
  have HL6 := Lib.hid (HL5.out.below hb6)
  have HJ6 := Lib.hid (HJ5.out.below hb6)
  clear hb6
  go_wp2_with fail
  refine (HPI.out _).mono ?_
  rintro e w' ⟨rfl, rfl⟩
  go_wp2_with fail
  clear hs1 hs2 hs3
  rw [HCAT.out]
  obtain ⟨ql, hql⟩ : ∃ q, q = bs long := ⟨_, rfl⟩
  rw [← hql]
  have HQL := Lib.hid hql
  clear hql
  refine (HL6.out.fuse (by omega) r (by omega)).mono ?_
  rintro e w7 ⟨rfl, hD7, hF7, hO7, hk7⟩
  have HD7 := Lib.hid hD7
  have HF7 := Lib.hid hF7
  have HO7 := Lib.hid hO7
  have hjp := HJ6.out.jp
  have HJ7 := Lib.hid (show Jrn w1 d p F3 st3 j 0 32 0 1 [] w7 from ⟨HJ6.out.at_.keep (hk7.block j HJ6.out.at_.lt (by simpa using hjp)), HJ6.out.on, HJ6.out.jF, HJ6.out.jp, HJ6.out.jn⟩)
  clear hD7 hF7 hO7 hk7
  have CAP := HO7.out.append HE1.out HD7.out HF7.out HL6.out.jd.ps HJ7.out rfl long (by omega) (by rw [HLL.out]; omega) (by rw [HSL.out, secsAll_nil]; omega)
  rw [← HQL.out, List.nil_append] at CAP
  have HCAP := Lib.hid CAP
  clear CAP
  go_wp2_with fail
  refine HCAP.out.mono ?_
  rintro e w8 ⟨xr, rfl, F8, st8, hM8, hOk8, ⟨hFit8, hAc8⟩, hcase⟩
  have HO8 := Lib.hid (HO7.out.mv hM8 (fun x hx => by
    simp only [List.mem_cons, List.not_mem_nil, or_false] at hx
    rcases hx with rfl | rfl
    · exact HO7.out.pn
    · exact HJ7.out.jn))
  obtain ⟨ok, recs, hD, hJO, hrc⟩ : ∃ ok recs, Dsk d p 64 F8 st8 ok w8 ∧ JOn (lost st8 (Dk.keptAt keep (Dk.clamp t))) 0 32 0 1 recs ∧ (recs = [] ∨ recs = [long]) := by
    rcases hcase with ⟨_, hD, hps, hJO8, _⟩ | ⟨g, g', _, hWA, _, hD, _, hlost⟩
    · exact ⟨true, [long], hD, by rw [lost_clean hps]; exact hJO8, Or.inr rfl⟩
    · rcases hlost (Dk.keptAt keep (Dk.clamp t)) with h | h
      · exact ⟨false, [], hD, h, Or.inl rfl⟩
      · exact ⟨false, [long], hD, h, Or.inr rfl⟩
  have hrs : secsAll recs ≤ 4 := by
    rcases hrc with rfl | rfl
    · rw [secsAll_nil]; omega
    · rw [secsAll_cons, secsAll_nil, HSL.out]; omega
  have HRS := Lib.hid hrs
  have HRC := Lib.hid hrc
  have HJO := Lib.hid hJO
  have HD8 := Lib.hid hD
  have HFC := Lib.hid (And.intro hFit8.a0 hAc8)
  clear hcase hrs hrc hJO hD hFit8 hAc8 hM8 hOk8
  go_wp2_with fail
  refine (on_again HD8.out HO8.out).mono ?_
  rintro e w10 ⟨rfl, hD10, hO10, hk10⟩
  have HD10 := Lib.hid hD10
  have HO10 := Lib.hid hO10
  clear hD10 hO10 hk10
  have HLO := Lib.hid (lose_it (c := 100) HD10.out rfl HFC.out.1 (by have h1 := HFC.out.2; have h2 := HL6.out.jd.a1; show st8.acts ≤ _; have h3 : st8.acts ≤ st3.acts + 10000 := h1; omega) HO10.out kv kb ko ks keep t (HY.out.keep (fun k hk => (HB1.out.trans (HO10.out.old.mono HB1.out.size)).block k (HKS.out k hk))) (fun k hk => by
    have g1 := HKS.out k hk
    have g2 := HB1.out.size
    have g3 := HO10.out.old.size
    exact ⟨by omega, fun hm => by have := HO10.out.fn k hm; omega⟩))
  go_wp2_with fail
  refine HLO.out.mono ?_
  rintro e w11 ⟨rfl, st11, hL11, hv11, hk11⟩
  have HL11 := Lib.hid hL11
  have HJO11 := Lib.hid (show JOn st11.view 0 32 0 1 recs by rw [hv11]; exact HJO.out)
  clear hL11 hv11 hk11 HLO
  go_wp2_with fail
  refine (HL11.out.open_on HJO11.out 0 64 rfl rfl (by omega) (by omega)).mono ?_
  rintro e w12 ⟨k, v12, rfl, hT12, _, hL12, hJ12, hb12⟩
  have HL12 := Lib.hid hL12
  have HJ12 := Lib.hid hJ12
  have CAP := hL12.append hJ12 [97] (by omega) (by omega) (by decide) (by rw [show secs [97] = 1 by rw [secs_eq]; rfl]; have := HRS.out; omega)
  rw [show bs [97] = (⟨#[97]⟩ : ByteArray) from (bs_of (s := ⟨#[97]⟩) rfl).symm] at CAP
  have HCA := Lib.hid CAP
  clear hL12 hJ12 CAP hb12
  rcases HRC.out with rfl | rfl
  · as_aux_lemma =>
    obtain ⟨b12, cap12, rfl⟩ := hT12.slice
    clear hT12
    go_wp2_with fail
    refine HCA.out.mono ?_
    rintro e w13 ⟨rfl, F13, st13, hL13, hJ13, _, _⟩
    have HL13 := Lib.hid hL13
    have HJ13 := Lib.hid hJ13
    have hbx : Below w13.heap.size w13 (w13.alloc (.cells #[Value.string ql, Value.string ⟨#[98]⟩] 9)) := (Below.refl _ _).alloc (Nat.le_refl _) _
    have HR := Lib.hid ((HL13.out.below hbx).reset (HJ13.out.below hbx) _ [long, [98]] (by omega) (by omega) (by omega) (by intro q hq; simp only [List.mem_cons, List.not_mem_nil, or_false] at hq; rcases hq with rfl | rfl; (rw [HLL.out]; omega); decide) (by rw [secsAll_cons, secsAll_cons, secsAll_nil, HSL.out, secs_eq]; decide) (texts_two (r := long) (s := [98]) w13 HQL.out (bs_of rfl)))
    clear hL13 hJ13 hbx
    go_wp2_with fail
    refine HR.out.mono ?_
    rintro e w14 ⟨rfl, F14, st14, hL14, hJ14, _, _⟩
    have HL14 := Lib.hid hL14
    have HJ14 := Lib.hid hJ14
    have hbx : Below w14.heap.size w14 (w14.alloc (.cells #[Value.string ⟨#[99]⟩] 9)) := (Below.refl _ _).alloc (Nat.le_refl _) _
    have HR2 := Lib.hid ((HL14.out.below hbx).reset (HJ14.out.below hbx) _ [[99]] (by omega) (by omega) (by omega) (by decide) (by rw [secsAll_cons, secsAll_nil, secs_eq]; decide) (texts_one (r := [99]) w14 (bs_of rfl)))
    clear hL14 hJ14 hbx HR
    go_wp2_with fail
    refine HR2.out.mono ?_
    rintro e w15 ⟨rfl, F15, st15, hL15, hJ15, _, _⟩
    have HL15 := Lib.hid hL15
    have HJ15 := Lib.hid hJ15
    have hbx : Below w15.heap.size w15 (w15.alloc (.cells #[Value.string ⟨#[100]⟩] 9)) := (Below.refl _ _).alloc (Nat.le_refl _) _
    have HR3 := Lib.hid ((HL15.out.below hbx).reset (HJ15.out.below hbx) _ [[100]] (by omega) (by omega) (by omega) (by decide) (by rw [secsAll_cons, secsAll_nil, secs_eq]; decide) (texts_one (r := [100]) w15 (bs_of rfl)))
    clear hL15 hJ15 hbx HR2
    go_wp2_with fail
    refine HR3.out.mono ?_
    rintro e w16 ⟨rfl, F16, st16, hL16, hJ16, _, _⟩
    have CAP := hL16.append hJ16 [101] (by omega) (by omega) (by decide) (by rw [secsAll_cons, secsAll_nil, secs_eq, secs_eq]; decide)
    rw [show bs [101] = (⟨#[101]⟩ : ByteArray) from (bs_of (s := ⟨#[101]⟩) rfl).symm] at CAP
    have HCE := Lib.hid CAP
    clear hL16 hJ16 CAP HR3
    go_wp2_with fail
    refine HCE.out.mono ?_
    rintro e w17 ⟨rfl, F17, st17, hL17, hJ17, _, _⟩
    have HL17 := Lib.hid hL17
    have HJ17 := Lib.hid hJ17
    clear hL17 hJ17
    go_wp2_with fail
    refine (HL17.out.open_ HJ17.out 0 64 rfl rfl (by omega) (by omega)).mono ?_
    rintro e w18 ⟨k18, v18, rfl, hT18, _, hL18, _, _⟩
    rcases hT18 with ⟨_, h0⟩ | ⟨g3, o3, cap3, rfl, hg3, hc3⟩
    · simp at h0
    have d3 : w18.cell? ⟨g3, o3, none⟩ = some (.string (⟨#[100]⟩ : ByteArray)) := by
      rw [show (⟨#[100]⟩ : ByteArray) = bs [100] from bs_of rfl]; exact hc3 0 (by decide)
    have d4 : w18.cell? ⟨g3, o3 + 1, none⟩ = some (.string (⟨#[101]⟩ : ByteArray)) := by
      rw [show (⟨#[101]⟩ : ByteArray) = bs [101] from bs_of rfl]; exact hc3 1 (by decide)
    have HL18 := Lib.hid hL18
    clear hL18 hc3
    go_wp2_with fail
    go_ret
    exact ⟨rfl, HB1.out.trans (HL18.out.old.mono HB1.out.size)⟩
  · as_aux_lemma =>
    obtain ⟨g12, o12, cap12, rfl, c12⟩ := hT12.at_ (i := 0) (by simp)
    rw [Nat.add_zero, show [long].getD 0 [] = long from rfl, ← HQL.out] at c12
    clear hT12
    go_wp2_with fail
    refine HCA.out.mono ?_
    rintro e w13 ⟨rfl, F13, st13, hL13, hJ13, _, _⟩
    have HL13 := Lib.hid hL13
    have HJ13 := Lib.hid hJ13
    have hbx : Below w13.heap.size w13 (w13.alloc (.cells #[Value.string ql, Value.string ⟨#[98]⟩] 9)) := (Below.refl _ _).alloc (Nat.le_refl _) _
    have HR := Lib.hid ((HL13.out.below hbx).reset (HJ13.out.below hbx) _ [long, [98]] (by omega) (by omega) (by omega) (by intro q hq; simp only [List.mem_cons, List.not_mem_nil, or_false] at hq; rcases hq with rfl | rfl; (rw [HLL.out]; omega); decide) (by rw [secsAll_cons, secsAll_cons, secsAll_nil, HSL.out, secs_eq]; decide) (texts_two (r := long) (s := [98]) w13 HQL.out (bs_of rfl)))
    clear hL13 hJ13 hbx
    go_wp2_with fail
    refine HR.out.mono ?_
    rintro e w14 ⟨rfl, F14, st14, hL14, hJ14, _, _⟩
    have HL14 := Lib.hid hL14
    have HJ14 := Lib.hid hJ14
    have hbx : Below w14.heap.size w14 (w14.alloc (.cells #[Value.string ⟨#[99]⟩] 9)) := (Below.refl _ _).alloc (Nat.le_refl _) _
    have HR2 := Lib.hid ((HL14.out.below hbx).reset (HJ14.out.below hbx) _ [[99]] (by omega) (by omega) (by omega) (by decide) (by rw [secsAll_cons, secsAll_nil, secs_eq]; decide) (texts_one (r := [99]) w14 (bs_of rfl)))
    clear hL14 hJ14 hbx HR
    go_wp2_with fail
    refine HR2.out.mono ?_
    rintro e w15 ⟨rfl, F15, st15, hL15, hJ15, _, _⟩
    have HL15 := Lib.hid hL15
    have HJ15 := Lib.hid hJ15
    have hbx : Below w15.heap.size w15 (w15.alloc (.cells #[Value.string ⟨#[100]⟩] 9)) := (Below.refl _ _).alloc (Nat.le_refl _) _
    have HR3 := Lib.hid ((HL15.out.below hbx).reset (HJ15.out.below hbx) _ [[100]] (by omega) (by omega) (by omega) (by decide) (by rw [secsAll_cons, secsAll_nil, secs_eq]; decide) (texts_one (r := [100]) w15 (bs_of rfl)))
    clear hL15 hJ15 hbx HR2
    go_wp2_with fail
    refine HR3.out.mono ?_
    rintro e w16 ⟨rfl, F16, st16, hL16, hJ16, _, _⟩
    have CAP := hL16.append hJ16 [101] (by omega) (by omega) (by decide) (by rw [secsAll_cons, secsAll_nil, secs_eq, secs_eq]; decide)
    rw [show bs [101] = (⟨#[101]⟩ : ByteArray) from (bs_of (s := ⟨#[101]⟩) rfl).symm] at CAP
    have HCE := Lib.hid CAP
    clear hL16 hJ16 CAP HR3
    go_wp2_with fail
    refine HCE.out.mono ?_
    rintro e w17 ⟨rfl, F17, st17, hL17, hJ17, _, _⟩
    have HL17 := Lib.hid hL17
    have HJ17 := Lib.hid hJ17
    clear hL17 hJ17
    go_wp2_with fail
    refine (HL17.out.open_ HJ17.out 0 64 rfl rfl (by omega) (by omega)).mono ?_
    rintro e w18 ⟨k18, v18, rfl, hT18, _, hL18, _, _⟩
    rcases hT18 with ⟨_, h0⟩ | ⟨g3, o3, cap3, rfl, hg3, hc3⟩
    · simp at h0
    have d3 : w18.cell? ⟨g3, o3, none⟩ = some (.string (⟨#[100]⟩ : ByteArray)) := by
      rw [show (⟨#[100]⟩ : ByteArray) = bs [100] from bs_of rfl]; exact hc3 0 (by decide)
    have d4 : w18.cell? ⟨g3, o3 + 1, none⟩ = some (.string (⟨#[101]⟩ : ByteArray)) := by
      rw [show (⟨#[101]⟩ : ByteArray) = bs [101] from bs_of rfl]; exact hc3 1 (by decide)
    have HL18 := Lib.hid hL18
    clear hL18 hc3
    go_wp2_with fail
    go_ret
    exact ⟨rfl, HB1.out.trans (HL18.out.old.mono HB1.out.size)⟩
end Go.Proofs.YtfancfladdecjaaGreatDoor
