/- One step of two disks side by side, whatever its kind. -/
import Derived.Test.YtkpnllaegkdkkaaPStep
import Derived.Deep.CutRange
import Derived.Deep.CutBlock
namespace Go.Proofs.Ytkpnllaegkdkkaa
open Go.RowKit

theorem kinds (kd : Int) : kd = 1 ∨ kd = 2 ∨ kd = 3 ∨ kd = 4 ∨ kd = 5 ∨ kd = 6 ∨ kd = 7 ∨ kd = 8 ∨ kd = 9 ∨ kd = 10 ∨ kd = 11 ∨ kd = 12 ∨ (kd ≠ 1 ∧ kd ≠ 2 ∧ kd ≠ 3 ∧ kd ≠ 4 ∧ kd ≠ 5 ∧ kd ≠ 6 ∧ kd ≠ 7 ∧ kd ≠ 8 ∧ kd ≠ 9 ∧ kd ≠ 10 ∧ kd ≠ 11 ∧ kd ≠ 12) := by
  by_cases h : 1 ≤ kd ∧ kd ≤ 12
  · omega
  · right; right; right; right; right; right; right; right; right; right; right; right; omega
set_option maxRecDepth 100000 in
set_option maxHeartbeats 8000000 in
theorem step_any {w0 w1 : World} {Q : List Nat} {L : Nat → List Nat} {p q d e r s b k N : Nat} {g : Pw} {x y y' : Ds} {w : World} (kd on a n : Int) (t : ByteArray) (kv : Value)
    (h : Play w0 w1 Q L p q d e r s g g x y x y' w) (hb : b ∈ Q) (hk : k = pickN on 2) (T : Wld b p q d r k w1) (hg : g.okN N) (hx : x.okN N) (hN : N ≤ 200)
    (h1 : -9223372036854775808 ≤ on) (h2 : on ≤ 9223372036854775807) (hn : n ≤ 9223372036854775807) (ht : t.size ≤ 9223372036854775807)
    (kb ko : Nat) (ks : List Nat) (keep : List Bool) (hy : Yes kv kb ko ks keep w1) (hks : ∀ k ∈ ks, k ∈ Q) :
    Calls Try.prog 9 #[.pointer (some ⟨b, 0, none⟩), .agg #[.int .i64 kd, .int .i64 on, .int .i64 a, .int .i64 n, .string t, kv]] w (Stepped w0 w1 Q p q d e r s N y y') := by
  have hk2 : k < 2 := by rw [hk]; exact pickN_lt _ _ (by omega)
  have HP : ∀ W, Calls Try.prog 6 #[.int .i64 on, .int .i64 2] W fun e w' => e = .returned (.int .i64 (k : Nat)) ∧ W = w' := fun W => by rw [hk]; exact pick_any on 2 (by omega) (by omega) h1 h2 W
  obtain ⟨w2, z, hw2, hz, h3, hq⟩ := h.enter hb T kd on a n t kv
  obtain ⟨qt, hqt⟩ : ∃ qt : ByteArray, qt.data.toList = readC g x a := list_of _
  have HT := Lib.hid hqt
  obtain ⟨qi, hqi⟩ : ∃ qi : ByteArray, qi.data.toList = imageC x := list_of _
  have HI := Lib.hid hqi
  have hy2 : Yes kv kb ko ks keep w2 := hy.keep (fun k hk => hq k (hks k hk))
  have HY := Lib.hid hy2
  have HL := Lib.hid hks
  have HS := Lib.hid ht
  have HF := Lib.hid hn
  clear hqt hqi hy hy2 hks ht hn
  have HP' := Lib.hid HP
  have A2 := Lib.hid h3
  have HQ := Lib.hid hq
  have HW := Lib.hid hw2
  have HZ := Lib.hid hz
  have HG := Lib.hid hg
  have HX := Lib.hid hx
  have N2 := Lib.hid (show N ≤ 1000 by omega)
  clear h hk HP h3 hq hw2 hz hg hx hN h1 h2 T hb
  go_enter Try.func9, Try.ntmps9
  go_wp2_with fail
  refine (HP'.out _).mono ?_
  rintro e wz ⟨rfl, rfl⟩
  rw [← HW.out, ← HZ.out]
  clear HW HZ HP'
  obtain ⟨⟨y0_2, y1_2, y3_2, y4_2⟩, x0_2, x1_2, x2_2, x3_2, x4_2, x5_2⟩ := A2.out.here
  go_upto_block 0 with fail
  go_cut [8] from 9 to 202 (fun s8 wx => s8 = .bool true ∧ ∃ g' x', Pw.okN (N + 1) g' ∧ Ds.okN (N + 1) x' ∧ SAt w0 w2 Q b z k p q d e r s g' g' x' y x' y' kd on a n t kv wx)
  case first =>
    have hkd := kinds kd
    rcases hkd with rfl | rfl | rfl | rfl | rfl | rfl | rfl | rfl | rfl | rfl | rfl | rfl | ⟨k1, k2, k3, k4, k5, k6, k7, k8, k9, k10, k11, k12⟩
    · as_aux_lemma =>
        go_wp2_with fail
        refine (A2.out.pread qt HT.out).mono ?_
        rintro e w3 ⟨v, rfl, he, ha⟩
        have A3 := Lib.hid ha
        clear ha
        have ER := Lib.hid he
        clear he
        clear y0_2 y1_2 y3_2 y4_2 x0_2 x1_2 x2_2 x3_2 x4_2 x5_2
        clear A2
        obtain ⟨⟨y0_3, y1_3, y3_3, y4_3⟩, x0_3, x1_3, x2_3, x3_3, x4_3, x5_3⟩ := A3.out.here
        go_wp2_with fail
        refine (A3.out.rread qt HT.out).mono ?_
        rintro e wz ⟨rfl, rfl⟩
        go_wp2_with fail
        refine (is_any ER.out).mono ?_
        rintro e wz ⟨rfl, rfl⟩
        clear ER
        go_wp2
        go_meet
        exact ⟨rfl, _, _, HG.out.more, HX.out.more, A3.out⟩
    · as_aux_lemma =>
        go_wp2_with fail
        have C2 : (w2.cell? ⟨z, 2, none⟩ = some (.int .i64 a) ∧ w2.cell? ⟨z, 4, none⟩ = some (.string t)) := ⟨x2_2, x4_2⟩
        go_region_held3 (fun v => v.cell? ⟨z, 2, none⟩ = some (.int .i64 a) ∧ v.cell? ⟨z, 4, none⟩ = some (.string t)) (first | exact C2 | exact C3 | exact C4) (first | (go_at_call 13; refine (sector_any t HS.out _).mono ?_; rintro e w3 ⟨rfl, hb3⟩; have ha := A2.out.drew.below hb3; have A3 := Lib.hid ha; clear ha hb3; have C3 : (w3.cell? ⟨z, 2, none⟩ = some (.int .i64 a) ∧ w3.cell? ⟨z, 4, none⟩ = some (.string t)) := by (obtain ⟨_, _, _, c2, _, c4, _⟩ := A3.out.here; exact ⟨c2, c4⟩)) | (go_at_call 23; refine (A3.out.rwrite N N2.out HG.out HX.out _).mono ?_; rintro e w4 ⟨rfl, ha⟩; have A4 := Lib.hid ha; clear ha; have C4 : (w4.cell? ⟨z, 2, none⟩ = some (.int .i64 a) ∧ w4.cell? ⟨z, 4, none⟩ = some (.string t)) := by (obtain ⟨_, _, _, c2, _, c4, _⟩ := A4.out.here; exact ⟨c2, c4⟩)) | fail)
        clear C2 C3 A3
        clear y0_2 y1_2 y3_2 y4_2 x0_2 x1_2 x2_2 x3_2 x4_2 x5_2
        clear A2
        obtain ⟨⟨y0_4, y1_4, y3_4, y4_4⟩, x0_4, x1_4, x2_4, x3_4, x4_4, x5_4⟩ := A4.out.here
        go_wp2_with fail
        go_region_held3 (fun v => v.cell? ⟨z, 2, none⟩ = some (.int .i64 a) ∧ v.cell? ⟨z, 4, none⟩ = some (.string t)) (first | exact C4 | exact C5 | exact C6) (first | (go_at_call 13; refine (sector_any t HS.out _).mono ?_; rintro e w5 ⟨rfl, hb5⟩; have ha := A4.out.drew.below hb5; have A5 := Lib.hid ha; clear ha hb5; have C5 : (w5.cell? ⟨z, 2, none⟩ = some (.int .i64 a) ∧ w5.cell? ⟨z, 4, none⟩ = some (.string t)) := by (obtain ⟨_, _, _, c2, _, c4, _⟩ := A5.out.here; exact ⟨c2, c4⟩)) | (go_at_call 12; refine (A5.out.pwrite N N2.out HG.out HX.out _).mono ?_; rintro e w6 ⟨v6, rfl, he, ha⟩; have A6 := Lib.hid ha; have ER := Lib.hid he; clear ha he; have C6 : (w6.cell? ⟨z, 2, none⟩ = some (.int .i64 a) ∧ w6.cell? ⟨z, 4, none⟩ = some (.string t)) := by (obtain ⟨_, _, _, c2, _, c4, _⟩ := A6.out.here; exact ⟨c2, c4⟩)) | (go_at_call 22; refine (is_any ER.out).mono ?_; rintro e wz ⟨rfl, rfl⟩) | fail)
        go_wp2
        go_meet
        exact ⟨rfl, _, _, writeG_ok HG.out, writeX_ok HX.out, A6.out⟩
    · as_aux_lemma =>
        go_wp2_with fail
        refine (A2.out.rflush N N2.out HG.out).mono ?_
        rintro e w3 ⟨rfl, ha⟩
        have A3 := Lib.hid ha
        clear ha
        clear y0_2 y1_2 y3_2 y4_2 x0_2 x1_2 x2_2 x3_2 x4_2 x5_2
        clear A2
        obtain ⟨⟨y0_3, y1_3, y3_3, y4_3⟩, x0_3, x1_3, x2_3, x3_3, x4_3, x5_3⟩ := A3.out.here
        go_wp2_with fail
        refine (A3.out.pflush N N2.out HG.out).mono ?_
        rintro e w4 ⟨v, rfl, he, ha⟩
        have A4 := Lib.hid ha
        clear ha
        have ER := Lib.hid he
        clear he
        clear y0_3 y1_3 y3_3 y4_3 x0_3 x1_3 x2_3 x3_3 x4_3 x5_3
        clear A3
        obtain ⟨⟨y0_4, y1_4, y3_4, y4_4⟩, x0_4, x1_4, x2_4, x3_4, x4_4, x5_4⟩ := A4.out.here
        go_wp2_with fail
        refine (is_any ER.out).mono ?_
        rintro e wz ⟨rfl, rfl⟩
        clear ER
        go_wp2
        go_meet
        exact ⟨rfl, _, _, flushG_ok HG.out, flushX_ok HX.out, A4.out⟩
    · as_aux_lemma =>
        go_wp2_with fail
        refine (A2.out.rlose kb ko ks keep HY.out HL.out).mono ?_
        rintro e w3 ⟨rfl, ha⟩
        have A3 := Lib.hid ha
        clear ha
        clear y0_2 y1_2 y3_2 y4_2 x0_2 x1_2 x2_2 x3_2 x4_2 x5_2
        clear A2
        obtain ⟨⟨y0_3, y1_3, y3_3, y4_3⟩, x0_3, x1_3, x2_3, x3_3, x4_3, x5_3⟩ := A3.out.here
        go_wp2_with fail
        refine (A3.out.plose kb ko ks keep HY.out HL.out).mono ?_
        rintro e w4 ⟨rfl, ha⟩
        have A4 := Lib.hid ha
        clear ha
        clear y0_3 y1_3 y3_3 y4_3 x0_3 x1_3 x2_3 x3_3 x4_3 x5_3
        clear A3
        obtain ⟨⟨y0_4, y1_4, y3_4, y4_4⟩, x0_4, x1_4, x2_4, x3_4, x4_4, x5_4⟩ := A4.out.here
        go_wp2
        go_meet
        exact ⟨rfl, _, _, HG.out.more, loseX_ok HX.out, A4.out⟩
    · as_aux_lemma =>
        go_wp2_with fail
        refine (A2.out.rkill N N2.out HX.out).mono ?_
        rintro e w3 ⟨rfl, ha⟩
        have A3 := Lib.hid ha
        clear ha
        clear y0_2 y1_2 y3_2 y4_2 x0_2 x1_2 x2_2 x3_2 x4_2 x5_2
        clear A2
        obtain ⟨⟨y0_3, y1_3, y3_3, y4_3⟩, x0_3, x1_3, x2_3, x3_3, x4_3, x5_3⟩ := A3.out.here
        go_wp2_with fail
        refine (A3.out.pkill N N2.out HX.out).mono ?_
        rintro e w4 ⟨rfl, ha⟩
        have A4 := Lib.hid ha
        clear ha
        clear y0_3 y1_3 y3_3 y4_3 x0_3 x1_3 x2_3 x3_3 x4_3 x5_3
        clear A3
        obtain ⟨⟨y0_4, y1_4, y3_4, y4_4⟩, x0_4, x1_4, x2_4, x3_4, x4_4, x5_4⟩ := A4.out.here
        go_wp2
        go_meet
        exact ⟨rfl, _, _, HG.out.more, killX_ok HX.out, A4.out⟩
    · as_aux_lemma =>
        go_wp2_with fail
        refine (A2.out.rreplace N N2.out HX.out).mono ?_
        rintro e w3 ⟨rfl, ha⟩
        have A3 := Lib.hid ha
        clear ha
        clear y0_2 y1_2 y3_2 y4_2 x0_2 x1_2 x2_2 x3_2 x4_2 x5_2
        clear A2
        obtain ⟨⟨y0_3, y1_3, y3_3, y4_3⟩, x0_3, x1_3, x2_3, x3_3, x4_3, x5_3⟩ := A3.out.here
        go_wp2_with fail
        refine (A3.out.preplace N N2.out HX.out).mono ?_
        rintro e w4 ⟨rfl, ha⟩
        have A4 := Lib.hid ha
        clear ha
        clear y0_3 y1_3 y3_3 y4_3 x0_3 x1_3 x2_3 x3_3 x4_3 x5_3
        clear A3
        obtain ⟨⟨y0_4, y1_4, y3_4, y4_4⟩, x0_4, x1_4, x2_4, x3_4, x4_4, x5_4⟩ := A4.out.here
        go_wp2
        go_meet
        exact ⟨rfl, _, _, HG.out.more, replaceX_ok HX.out, A4.out⟩
    · as_aux_lemma =>
        go_wp2_with fail
        refine (A2.out.rrot).mono ?_
        rintro e w3 ⟨rfl, ha⟩
        have A3 := Lib.hid ha
        clear ha
        clear y0_2 y1_2 y3_2 y4_2 x0_2 x1_2 x2_2 x3_2 x4_2 x5_2
        clear A2
        obtain ⟨⟨y0_3, y1_3, y3_3, y4_3⟩, x0_3, x1_3, x2_3, x3_3, x4_3, x5_3⟩ := A3.out.here
        go_wp2_with fail
        refine (A3.out.prot).mono ?_
        rintro e w4 ⟨v, rfl, he, ha⟩
        have A4 := Lib.hid ha
        clear ha
        have ER := Lib.hid he
        clear he
        clear y0_3 y1_3 y3_3 y4_3 x0_3 x1_3 x2_3 x3_3 x4_3 x5_3
        clear A3
        obtain ⟨⟨y0_4, y1_4, y3_4, y4_4⟩, x0_4, x1_4, x2_4, x3_4, x4_4, x5_4⟩ := A4.out.here
        go_wp2_with fail
        refine (is_any ER.out).mono ?_
        rintro e wz ⟨rfl, rfl⟩
        clear ER
        go_wp2
        go_meet
        exact ⟨rfl, _, _, HG.out.more, rotX_ok HX.out, A4.out⟩
    · as_aux_lemma =>
        go_wp2_with fail
        refine (A2.out.rimage qi HI.out).mono ?_
        rintro e w3 ⟨rfl, ha⟩
        have A3 := Lib.hid ha
        clear ha
        clear y0_2 y1_2 y3_2 y4_2 x0_2 x1_2 x2_2 x3_2 x4_2 x5_2
        clear A2
        obtain ⟨⟨y0_3, y1_3, y3_3, y4_3⟩, x0_3, x1_3, x2_3, x3_3, x4_3, x5_3⟩ := A3.out.here
        go_wp2_with fail
        refine (A3.out.pimage qi HI.out).mono ?_
        rintro e w4 ⟨rfl, ha⟩
        have A4 := Lib.hid ha
        clear ha
        clear y0_3 y1_3 y3_3 y4_3 x0_3 x1_3 x2_3 x3_3 x4_3 x5_3
        clear A3
        obtain ⟨⟨y0_4, y1_4, y3_4, y4_4⟩, x0_4, x1_4, x2_4, x3_4, x4_4, x5_4⟩ := A4.out.here
        go_wp2
        go_meet
        exact ⟨rfl, _, _, HG.out.more, HX.out.more, A4.out⟩
    · as_aux_lemma =>
        have f2 := A2.out.drew.rfree 1
        obtain ⟨g0, g1⟩ := A2.out.drew.rcells
        have ha := A2.out.rset 1 (.int .i64 (max n (-1))) (gr' := fuseG g n) rfl
        have CS : (w2.setCell ⟨q, 1, none⟩ (.int .i64 (max n (-1)))).drew.cell? ⟨b, 3, none⟩ = some (.pointer (some ⟨q, 0, none⟩)) ∧ (w2.setCell ⟨q, 1, none⟩ (.int .i64 (max n (-1)))).drew.cell? ⟨z, 3, none⟩ = some (.int .i64 n) := by (obtain ⟨⟨_, _, c3, _⟩, _, _, _, c, _⟩ := ha.drew.here; exact ⟨c3, c⟩)
        have A3' := Lib.hid ha
        clear ha
        go_wp2_with fail
        have C2 : w2.cell? ⟨b, 3, none⟩ = some (.pointer (some ⟨q, 0, none⟩)) ∧ w2.cell? ⟨z, 3, none⟩ = some (.int .i64 n) := ⟨y3_2, x3_2⟩
        go_region_held3 (fun v => v.cell? ⟨b, 3, none⟩ = some (.pointer (some ⟨q, 0, none⟩)) ∧ v.cell? ⟨z, 3, none⟩ = some (.int .i64 n)) (first | exact C2 | exact CS) (fail)
        obtain ⟨w3, hw3⟩ : ∃ w3, w3 = (w2.setCell ⟨q, 1, none⟩ (.int .i64 (max n (-1)))).drew := ⟨_, rfl⟩
        have A3 : Hid (SAt w0 w2 Q b z k p q d e r s g (fuseG g n) x y x y' 9 on a n t kv w3) := Lib.hid (by rw [hw3]; exact A3'.out.drew)
        rw [← hw3]
        clear A3' hw3 f2 g0 g1 CS C2
        clear y0_2 y1_2 y3_2 y4_2 x0_2 x1_2 x2_2 x3_2 x4_2 x5_2
        clear A2
        obtain ⟨⟨y0_3, y1_3, y3_3, y4_3⟩, x0_3, x1_3, x2_3, x3_3, x4_3, x5_3⟩ := A3.out.here
        go_wp2_with fail
        have C3 : w3.cell? ⟨b, 0, none⟩ = some (.pointer (some ⟨p, 0, none⟩)) ∧ w3.cell? ⟨z, 3, none⟩ = some (.int .i64 n) := ⟨y0_3, x3_3⟩
        go_region_held3 (fun v => v.cell? ⟨b, 0, none⟩ = some (.pointer (some ⟨p, 0, none⟩)) ∧ v.cell? ⟨z, 3, none⟩ = some (.int .i64 n)) (first | exact C3 | exact C4) (first | (go_at_call 33; refine (A3.out.drew.pfuse).mono ?_; rintro e w4 ⟨rfl, ha⟩; have A4 := Lib.hid ha; clear ha; have C4 : w4.cell? ⟨b, 0, none⟩ = some (.pointer (some ⟨p, 0, none⟩)) ∧ w4.cell? ⟨z, 3, none⟩ = some (.int .i64 n) := by (obtain ⟨⟨c0, _⟩, _, _, _, c, _⟩ := A4.out.here; exact ⟨c0, c⟩)) | fail)
        go_wp2
        go_meet
        exact ⟨rfl, _, _, fuseG_ok HG.out HF.out, HX.out.more, A4.out⟩
    · as_aux_lemma =>
        have f2 := A2.out.rfree 0
        obtain ⟨g0, g1⟩ := A2.out.rcells
        have ha := A2.out.rset 0 (.bool true) (gr' := cutG g) rfl
        obtain ⟨⟨s0, _, s3, _⟩, _⟩ := ha.here
        have A3' := Lib.hid ha
        clear ha
        go_wp2_with fail
        obtain ⟨w3, hw3⟩ : ∃ w3, w3 = w2.setCell ⟨q, 0, none⟩ (.bool true) := ⟨_, rfl⟩
        have A3 : Hid (SAt w0 w2 Q b z k p q d e r s g (cutG g) x y x y' 10 on a n t kv w3) := Lib.hid (by rw [hw3]; exact A3'.out)
        rw [← hw3]
        clear A3' hw3 f2 g0 g1 s0 s3
        clear y0_2 y1_2 y3_2 y4_2 x0_2 x1_2 x2_2 x3_2 x4_2 x5_2
        clear A2
        obtain ⟨⟨y0_3, y1_3, y3_3, y4_3⟩, x0_3, x1_3, x2_3, x3_3, x4_3, x5_3⟩ := A3.out.here
        refine (A3.out.pcut).mono ?_
        rintro e w4 ⟨rfl, ha⟩
        have A4 := Lib.hid ha
        clear ha
        clear y0_3 y1_3 y3_3 y4_3 x0_3 x1_3 x2_3 x3_3 x4_3 x5_3
        clear A3
        obtain ⟨⟨y0_4, y1_4, y3_4, y4_4⟩, x0_4, x1_4, x2_4, x3_4, x4_4, x5_4⟩ := A4.out.here
        go_wp2
        go_meet
        exact ⟨rfl, _, _, cutG_ok HG.out, HX.out.more, A4.out⟩
    · as_aux_lemma =>
        have f2 := A2.out.rfree 0
        obtain ⟨g0, g1⟩ := A2.out.rcells
        have ha := A2.out.rset 0 (.bool false) (gr' := { g with gone := false }) rfl
        obtain ⟨⟨s0, _, s3, _⟩, _⟩ := ha.here
        have f3 := ha.rfree 1
        obtain ⟨g2, g3⟩ := ha.rcells
        have hb := ha.rset 1 (.int .i64 (-1)) (gr' := onG g) rfl
        obtain ⟨⟨m0, _, m3, _⟩, _⟩ := hb.here
        have A3' := Lib.hid hb
        clear ha hb
        go_wp2_with fail
        obtain ⟨w3, hw3⟩ : ∃ w3, w3 = (w2.setCell ⟨q, 0, none⟩ (.bool false)).setCell ⟨q, 1, none⟩ (.int .i64 (-1)) := ⟨_, rfl⟩
        have A3 : Hid (SAt w0 w2 Q b z k p q d e r s g (onG g) x y x y' 11 on a n t kv w3) := Lib.hid (by rw [hw3]; exact A3'.out)
        rw [← hw3]
        clear A3' hw3 f2 f3 g0 g1 g2 g3 s0 s3 m0 m3
        clear y0_2 y1_2 y3_2 y4_2 x0_2 x1_2 x2_2 x3_2 x4_2 x5_2
        clear A2
        obtain ⟨⟨y0_3, y1_3, y3_3, y4_3⟩, x0_3, x1_3, x2_3, x3_3, x4_3, x5_3⟩ := A3.out.here
        refine (A3.out.pon).mono ?_
        rintro e w4 ⟨rfl, ha⟩
        have A4 := Lib.hid ha
        clear ha
        clear y0_3 y1_3 y3_3 y4_3 x0_3 x1_3 x2_3 x3_3 x4_3 x5_3
        clear A3
        obtain ⟨⟨y0_4, y1_4, y3_4, y4_4⟩, x0_4, x1_4, x2_4, x3_4, x4_4, x5_4⟩ := A4.out.here
        go_wp2
        go_meet
        exact ⟨rfl, _, _, onG_ok HG.out, HX.out.more, A4.out⟩
    · as_aux_lemma =>
        go_wp2_with fail
        refine (A2.out.rwrite N N2.out HG.out HX.out t).mono ?_
        rintro e w3 ⟨rfl, ha⟩
        have A3 := Lib.hid ha
        clear ha
        clear y0_2 y1_2 y3_2 y4_2 x0_2 x1_2 x2_2 x3_2 x4_2 x5_2
        clear A2
        obtain ⟨⟨y0_3, y1_3, y3_3, y4_3⟩, x0_3, x1_3, x2_3, x3_3, x4_3, x5_3⟩ := A3.out.here
        go_wp2_with fail
        refine (A3.out.pwrite N N2.out HG.out HX.out t).mono ?_
        rintro e w4 ⟨v, rfl, he, ha⟩
        have A4 := Lib.hid ha
        clear ha
        have ER := Lib.hid he
        clear he
        clear y0_3 y1_3 y3_3 y4_3 x0_3 x1_3 x2_3 x3_3 x4_3 x5_3
        clear A3
        obtain ⟨⟨y0_4, y1_4, y3_4, y4_4⟩, x0_4, x1_4, x2_4, x3_4, x4_4, x5_4⟩ := A4.out.here
        go_wp2_with fail
        refine (is_any ER.out).mono ?_
        rintro e wz ⟨rfl, rfl⟩
        clear ER
        go_wp2
        go_meet
        exact ⟨rfl, _, _, writeG_ok HG.out, writeX_ok HX.out, A4.out⟩
    · as_aux_lemma =>
        go_wp2
        go_meet
        exact ⟨rfl, _, _, HG.out.more, HX.out.more, A2.out⟩
  case rest =>
    as_aux_lemma =>
      obtain ⟨hs8, g', x', hg', hx', ha⟩ := hcut
      have A9 := Lib.hid ha
      have HG' := Lib.hid hg'
      have HX' := Lib.hid hx'
      clear ha hg' hx' A2
      clear y0_2 y1_2 y3_2 y4_2 x0_2 x1_2 x2_2 x3_2 x4_2 x5_2
      obtain ⟨⟨y0_9, y1_9, y3_9, y4_9⟩, x0_9, x1_9, x2_9, x3_9, x4_9, x5_9⟩ := A9.out.here
      obtain ⟨u0, u2, ⟨ua, uc, u3⟩, u4, u5, u1⟩ := A9.out.tell
      obtain ⟨q1, q2, q3, q4, q5, q6⟩ := A9.out.quiet
      clear y1_9 y4_9 x0_9 x1_9 x2_9 x3_9 x4_9 x5_9 hk2
      generalize eg1 : Pw.gone _ = v1 at q1 u0
      generalize eg2 : Pw.acts _ = v2 at q2 u2
      generalize eg3 : (Ds.ps _).length = v3 at q3 u3
      generalize eg4 : Ds.dead _ = v4 at q4 u4
      generalize eg5 : Ds.life _ = v5 at q5 u5
      generalize eg6 : ((Ds.n _ : Nat) : Int) = v6 at q6 u1
      clear eg1 eg2 eg3 eg4 eg5 eg6
      have Q1 := Lib.hid q1
      have Q2 := Lib.hid q2
      have Q3 := Lib.hid q3
      have Q4 := Lib.hid q4
      have Q5 := Lib.hid q5
      have Q6 := Lib.hid q6
      clear q1 q2 q3 q4 q5 q6
      subst hs8
      go_wp2_with fail
      go_quiet (first | (go_at_call 36; exact Calls.quiet_of_same (Q1.out _)) | (go_at_call 17; exact Calls.quiet_of_same (Q2.out _)) | (go_at_call 15; exact Calls.quiet_of_same (Q3.out _)) | (go_at_call 37; exact Calls.quiet_of_same (Q4.out _)) | (go_at_call 38; exact Calls.quiet_of_same (Q5.out _)) | (go_at_call 39; exact Calls.quiet_of_same (Q6.out _)))
      go_wp2
      go_ret
      exact (A9.out.drewN _).done HQ.out HG'.out HX'.out
end Go.Proofs.Ytkpnllaegkdkkaa
