/- The walk of JournalAnew. -/
import Derived.Test.YtafhkpmfcmlbfaaGreatDoorJKnown
namespace Go.Proofs.YtafhkpmfcmlbfaaGreatDoor
open Go.RowKit

theorem pick_is (c : Int) (n : Nat) (hn : 0 < n) (hn2 : n ≤ 1000000) (hc : -9223372036854775808 ≤ c ∧ c ≤ 9223372036854775807) : ∃ r : Nat, r < n ∧ ∀ w : World, Calls Tryz.prog 12 #[.int .i64 c, .int .i64 n] w fun e w' => e = .returned (.int .i64 r) ∧ w = w' := by
  by_cases h0 : c < 0
  · obtain ⟨x, hx⟩ : ∃ x : Nat, -(c + 1) = (x : Int) := ⟨(-(c + 1)).toNat, by omega⟩
    refine ⟨x % n, Nat.mod_lt _ hn, fun w => ?_⟩
    have e1 : ((x : Int)).tmod (n : Int) = ((x % n : Nat) : Int) := by rw [Int.tmod_eq_emod_of_nonneg (by omega)]; rfl
    have e2 : ((x : Int)) % (n : Int) = ((x % n : Nat) : Int) := rfl
    have hz : ¬ ((n : Int) = 0) := by omega
    have hlt := Nat.mod_lt x hn
    obtain ⟨r, hr⟩ : ∃ r, r = x % n := ⟨_, rfl⟩
    rw [← hr] at e1 e2 hlt ⊢
    clear hr
    go_enter Tryz.func12, Tryz.ntmps12
    go_wp2
    go_ret
    exact ⟨rfl, rfl⟩
  · obtain ⟨x, rfl⟩ : ∃ x : Nat, c = (x : Int) := ⟨c.toNat, by omega⟩
    refine ⟨x % n, Nat.mod_lt _ hn, fun w => ?_⟩
    have e1 : ((x : Int)).tmod (n : Int) = ((x % n : Nat) : Int) := by rw [Int.tmod_eq_emod_of_nonneg (by omega)]; rfl
    have e2 : ((x : Int)) % (n : Int) = ((x % n : Nat) : Int) := rfl
    have hz : ¬ ((n : Int) = 0) := by omega
    have hlt := Nat.mod_lt x hn
    obtain ⟨r, hr⟩ : ∃ r, r = x % n := ⟨_, rfl⟩
    rw [← hr] at e1 e2 hlt ⊢
    clear hr
    go_enter Tryz.func12, Tryz.ntmps12
    go_wp2
    go_ret
    exact ⟨rfl, rfl⟩
/-- What lies in none of a disk's blocks. -/
def Aw (v : Value) (p j : Nat) (F : List Nat) : Prop := ∀ g, textsBlock v = some g → g ∉ [p, j] ∧ g ∉ F
theorem Aw.mv {v : Value} {p j : Nat} {F F' X : List Nat} {l : List (List UInt8)} {w w' : World} (h : Aw v p j F) (hT : Texts v l w) (hM : Mv X F F' w w') : Aw v p j F' :=
  fun g hg => ⟨(h g hg).1, hM.away (hT.lt hg) (h g hg).2⟩
theorem secsAll_cut (l : List (List UInt8)) (n : Nat) : secsAll (cutAll l n 100) ≤ 2 * n := by
  have h1 := length_cutAll l n 100
  have h2 := cutAll_short l n 100
  obtain ⟨x, hx⟩ : ∃ x, x = cutAll l n 100 := ⟨_, rfl⟩
  rw [← hx] at h1 h2 ⊢
  clear hx
  induction x generalizing n with
  | nil => rw [secsAll_nil]; omega
  | cons s x ih =>
    rw [List.length_cons] at h1
    have := ih (n - 1) (fun t ht => h2 t (List.mem_cons_of_mem _ ht)) (by omega)
    have hs := h2 s (List.mem_cons_self ..)
    rw [secsAll_cons, secs_eq]
    omega
set_option maxRecDepth 100000 in
set_option maxHeartbeats 4000000 in
theorem Anew_walk (v : Value) (l : List (List UInt8)) (times : Int) (hll : l.length ≤ 9223372036854775807) (ht : -9223372036854775808 ≤ times ∧ times ≤ 9223372036854775807) (w : World) (h : Given v l w) :
    Calls Tryz.prog 9 #[v, .int .i64 times] w fun e w' => e = .returned (.bool true) ∧ Below w.heap.size w w' := by
  obtain ⟨r, hr, hpick⟩ := pick_is times 6 (by omega) (by omega) ht
  obtain ⟨cl, hcl⟩ : ∃ cl, cl = cutAll l 6 100 := ⟨_, rfl⟩
  have hcs : secsAll cl ≤ 12 := by rw [hcl]; exact secsAll_cut l 6
  have hcm : ∀ q ∈ cl, q.length ≤ 60000 := fun q hq => by rw [hcl] at hq; have := cutAll_short l 6 100 q hq; omega
  have CT := Lib.hid (fun (y : World) (hy : Given v l y) => texts_is v l 6 100 (by omega) hll y hy)
  rw [← hcl] at CT
  obtain ⟨b0, cap0, rfl⟩ := h.slice
  have H := Lib.hid h
  have HPI := Lib.hid hpick
  have HCM := Lib.hid hcm
  have HCS := Lib.hid hcs
  clear h hpick hcm hcl hcs
  go_enter Tryz.func9, Tryz.ntmps9
  go_wp2_with fail
  refine (jknown_true _).mono ?_
  rintro e w1 ⟨rfl, hb1⟩
  have HB1 := Lib.hid hb1
  clear hb1
  go_wp2_with fail
  refine (jrack_ok _).mono ?_
  rintro e w2 ⟨p, d, F2, st2, rfl, hL2⟩
  have HL2 := Lib.hid hL2
  clear hL2
  go_wp2_with fail
  refine (HL2.out.format 8 20 8 40 rfl rfl (by omega) (by omega) (by omega)).mono ?_
  rintro e w3 ⟨j, F3, st3, hj3, rfl, hL3, hJ3, _, _⟩
  have HL3 := Lib.hid hL3
  have HJ3 := Lib.hid hJ3
  clear hL3 hJ3
  go_wp2_with fail
  refine (CT.out _ (H.out.below (Nat.le_refl _) (HB1.out.trans (HL3.out.old.mono HB1.out.size)))).mono ?_
  rintro e w4 ⟨v4, rfl, hown4, hb4⟩
  have hT4 := Texts.of_own hown4
  have hA4 : Aw v4 p j F3 := fun g hg => by
    have h1 := (hown4.lt g (by rw [← textsBlock_own]; exact hg)).1
    have h2 := HL3.out.jd.dsk.pow.lt
    have h3 := HJ3.out.at_.lt
    exact ⟨by simp; omega, fun hm => by have := HL3.out.jd.dsk.Flt g hm; omega⟩
  obtain ⟨b4, cap4, rfl⟩ := hT4.slice
  have HL4 := Lib.hid (HL3.out.below hb4)
  have HJ4 := Lib.hid (HJ3.out.below hb4)
  have HT4 := Lib.hid hT4
  have HA4 := Lib.hid hA4
  clear hown4 hb4 hT4 hA4
  go_wp2_with fail
  go_loopw [10] (fun iv wr => ∃ (i c act ep : Nat) (recs : List (List UInt8)) (F : List Nat) (st : St), i ≤ r ∧ iv = .int .i64 i ∧ c = 2 + 2 * i ∧ ep ≤ 1 + i ∧ Lw w1 d p 64 F st c wr ∧ Jrn w1 d p F st j 8 20 act ep recs wr ∧ Texts (.slice b4 cl.length cap4) cl wr ∧ Aw (.slice b4 cl.length cap4) p j F) (fun iv _ => r - (intOf iv).toNat)
  case atStart => exact ⟨0, 2, 0, 1, [], F3, st3, by omega, rfl, by omega, by omega, HL4.out, HJ4.out, HT4.out, HA4.out⟩
  case round =>
    clear HL4 HJ4 HT4 HA4
    obtain ⟨i, c, act, ep, recs, F, st, hir, rfl, hc, hep, hL, hJ, hT, hA⟩ := hrel
    have HL := Lib.hid hL
    have HJ := Lib.hid hJ
    have HT := Lib.hid hT
    have HA := Lib.hid hA
    clear hL hJ hT hA
    by_cases hlt : i < r
    · as_aux_lemma =>
      go_wp2_with (first | (go_at_call 12; refine (HPI.out _).mono ?_; rintro e w' ⟨rfl, rfl⟩) | fail)
      refine (HL.out.reset HJ.out _ cl (by omega) (by omega) (by omega) HCM.out (by have := HCS.out; omega) HT.out).mono ?_
      rintro e w5 ⟨rfl, F5, st5, hL5, hJ5, _, hM5⟩
      have HL5 := Lib.hid hL5
      have HJ5 := Lib.hid hJ5
      have HT5 := Lib.hid (HT.out.mv hM5 HA.out)
      have HA5 := Lib.hid (HA.out.mv HT.out hM5)
      clear hL5 hJ5 hM5
      go_wp2_with fail
      have CAP := HL5.out.append HJ5.out [120] (by omega) (by omega) (by decide) (by rw [secs_x]; have := HCS.out; omega)
      rw [show bs [120] = (⟨#[120]⟩ : ByteArray) from (bs_of (s := ⟨#[120]⟩) rfl).symm] at CAP
      refine CAP.mono ?_
      rintro e w6 ⟨rfl, F6, st6, hL6, hJ6, _, hM6⟩
      have HL6 := Lib.hid hL6
      have HJ6 := Lib.hid hJ6
      have HT6 := Lib.hid (HT5.out.mv hM6 HA5.out)
      have HA6 := Lib.hid (HA5.out.mv HT5.out hM6)
      clear hL6 hJ6 hM6 CAP
      go_wp2_with fail
      go_roundw
      case rel => exact ⟨i + 1, c + 1 + 1, 1 - act, ep + 1, _, F6, st6, by omega, by go_num, by omega, by omega, HL6.out, HJ6.out, HT6.out, HA6.out⟩
      case measure => simp [intOf]; omega
    · as_aux_lemma =>
      go_wp2_with (first | (go_at_call 12; refine (HPI.out _).mono ?_; rintro e w' ⟨rfl, rfl⟩) | fail)
      refine (HL.out.format 8 20 8 40 rfl rfl (by omega) (by omega) (by omega)).mono ?_
      rintro e w7 ⟨k, F7, st7, hk7, rfl, hL7, hJ7, _, _⟩
      have HL7 := Lib.hid hL7
      have HJ7 := Lib.hid hJ7
      clear hL7 hJ7
      go_wp2_with fail
      refine (HL7.out.open_ HJ7.out 8 40 rfl rfl (by omega) (by omega)).mono ?_
      rintro e w8 ⟨k8, v8, rfl, hT8, _, hL8, hJ8, _⟩
      obtain ⟨b8, cap8, rfl⟩ := hT8.slice
      have HL8 := Lib.hid hL8
      have HJ8 := Lib.hid hJ8
      clear hL8 hJ8 hT8
      have CAP := HL8.out.append HJ8.out [121] (by omega) (by omega) (by decide) (by rw [secs_y, secsAll_nil]; omega)
      rw [show bs [121] = (⟨#[121]⟩ : ByteArray) from (bs_of (s := ⟨#[121]⟩) rfl).symm] at CAP
      have HCAP := Lib.hid CAP
      clear CAP
      go_wp2_with fail
      refine HCAP.out.mono ?_
      rintro e w9 ⟨rfl, F9, st9, hL9, hJ9, _, _⟩
      have HL9 := Lib.hid hL9
      have HJ9 := Lib.hid hJ9
      clear hL9 hJ9
      go_wp2_with fail
      refine (HL9.out.open_ HJ9.out 8 40 rfl rfl (by omega) (by omega)).mono ?_
      rintro e w10 ⟨k10, v10, rfl, hT10, _, hL10, hJ10, _⟩
      rcases hT10 with ⟨_, h0⟩ | ⟨g2, o2, cap2, rfl, hg2, hc2⟩
      · cases h0
      have d2 : w10.cell? ⟨g2, o2, none⟩ = some (.string (bs [121])) := hc2 0 (by decide)
      rw [show bs [121] = (⟨#[121]⟩ : ByteArray) from (bs_of (s := ⟨#[121]⟩) rfl).symm] at d2
      have HL10 := Lib.hid hL10
      have HJ10 := Lib.hid hJ10
      clear hL10 hJ10 hc2
      go_wp2_with (first | (go_at_call 22; refine (Epoch_is _ _ _ _ _ _ _ _ _ _ HJ10.out.at_).mono ?_; rintro e w' ⟨rfl, rfl⟩) | fail)
      go_ret
      exact ⟨rfl, HB1.out.trans (HL10.out.old.mono HB1.out.size)⟩
end Go.Proofs.YtafhkpmfcmlbfaaGreatDoor
