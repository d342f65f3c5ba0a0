/- The walk of the statement JournalOpens. -/
import Derived.Test.YtmobjpandmdmdaaGreatDoorJOpensH
import Derived.Test.YtmobjpandmdmdaaGreatDoorJKnown
import Derived.Test.YtmobjpandmdmdaaGreatDoorFRef
import Derived.Test.YtmobjpandmdmdaaGreatDoorSReg
import Derived.Deep.RegionHeld3
import Derived.Deep.CutRange
namespace Go.Proofs.YtmobjpandmdmdaaGreatDoor
open Go.RowKit

theorem list_of' (l : List UInt8) : ∃ m : ByteArray, m.data.toList = l := ⟨⟨l.toArray⟩, by simp⟩
/-- Numbers that are handed in. -/
def Nums (a : Option Addr) (b o : Nat) (f : Nat → Int) (len : Nat) (w : World) : Prop :=
  (len = 0 ∨ a = some ⟨b, o, none⟩) ∧ (len = 0 ∨ b < w.heap.size) ∧ (∀ i, i < len → w.cell? ⟨b, o + i, none⟩ = some (.int .i64 (f i))) ∧ ∀ i, i < len → -9223372036854775808 ≤ f i ∧ f i ≤ 9223372036854775807
/-- Texts that are handed in. -/
def Strs (a : Option Addr) (b o : Nat) (f : Nat → ByteArray) (len : Nat) (w : World) : Prop :=
  (len = 0 ∨ a = some ⟨b, o, none⟩) ∧ (len = 0 ∨ b < w.heap.size) ∧ (∀ i, i < len → w.cell? ⟨b, o + i, none⟩ = some (.string (f i))) ∧ ∀ i, i < len → (f i).size ≤ 9223372036854775807
section
variable {w0 w w' : World} {d p K : Nat}
theorem Wr.more (h : Wr w0 d p K w) {K' : Nat} (hK : K ≤ K') : Wr w0 d p K' w := by
  obtain ⟨F, S, ps, acts, h1, h2, h3, h4, h5, h6, h7, h8⟩ := h
  exact ⟨F, S, ps, acts, h1, h2, by omega, h4, by omega, h6, h7, h8⟩
theorem Wr.old (h : Wr w0 d p K w) : Below w0.heap.size w0 w := by
  obtain ⟨F, S, ps, acts, h1, h2, h3, h4, h5, h6, h7, h8⟩ := h
  exact h6
theorem Wr.drew (h : Wr w0 d p K w) : Wr w0 d p K w.drew := h.below (Below.refl _ _).drew
theorem Nums.at {a : Option Addr} {b o len : Nat} {f : Nat → Int} (h : Nums a b o f len w0) (hW : Below w0.heap.size w0 w) {i : Nat} (hi : i < len) : a = some ⟨b, o, none⟩ ∧ w.cell? ⟨b, o + i, none⟩ = some (.int .i64 (f i)) :=
  ⟨h.1.resolve_left (by omega), (World.cell?_of_block (w := w0) (a := ⟨b, o + i, none⟩) (hW.block b (h.2.1.resolve_left (by omega)))).trans (h.2.2.1 i hi)⟩
theorem Strs.at {a : Option Addr} {b o len : Nat} {f : Nat → ByteArray} (h : Strs a b o f len w0) (hW : Below w0.heap.size w0 w) {i : Nat} (hi : i < len) : a = some ⟨b, o, none⟩ ∧ w.cell? ⟨b, o + i, none⟩ = some (.string (f i)) :=
  ⟨h.1.resolve_left (by omega), (World.cell?_of_block (w := w0) (a := ⟨b, o + i, none⟩) (hW.block b (h.2.1.resolve_left (by omega)))).trans (h.2.2.1 i hi)⟩
end
theorem pick_some (c : Int) (n : Nat) (hn : 0 < n) (hn2 : n ≤ 1000000) (hc : -9223372036854775808 ≤ c ∧ c ≤ 9223372036854775807) : ∃ r : Nat, r < n ∧ ∀ w : World, Calls Tryz.prog 9 #[.int .i64 c, .int .i64 n] w fun e w' => e = .returned (.int .i64 r) ∧ w = w' := by
  by_cases h0 : c < 0
  · obtain ⟨x, hx⟩ : ∃ x : Nat, -(c + 1) = (x : Int) := ⟨(-(c + 1)).toNat, by omega⟩
    refine ⟨x % n, Nat.mod_lt _ hn, fun w => ?_⟩
    have e1 : ((x : Int)).tmod (n : Int) = ((x % n : Nat) : Int) := by rw [Int.tmod_eq_emod_of_nonneg (by omega)]; rfl
    have e2 : ((x : Int)) % (n : Int) = ((x % n : Nat) : Int) := rfl
    have hz : ¬ ((n : Int) = 0) := by omega
    have hlt := Nat.mod_lt x hn
    obtain ⟨r, hr⟩ : ∃ r, r = x % n := ⟨_, rfl⟩
    rw [← hr] at e1 e2 hlt ⊢
    clear hr
    go_enter Tryz.func9, Tryz.ntmps9
    go_wp2
    go_ret
    exact ⟨rfl, rfl⟩
  · obtain ⟨x, rfl⟩ : ∃ x : Nat, c = (x : Int) := ⟨c.toNat, by omega⟩
    refine ⟨x % n, Nat.mod_lt _ hn, fun w => ?_⟩
    have e1 : ((x : Int)).tmod (n : Int) = ((x % n : Nat) : Int) := by rw [Int.tmod_eq_emod_of_nonneg (by omega)]; rfl
    have e2 : ((x : Int)) % (n : Int) = ((x % n : Nat) : Int) := rfl
    have hz : ¬ ((n : Int) = 0) := by omega
    have hlt := Nat.mod_lt x hn
    obtain ⟨r, hr⟩ : ∃ r, r = x % n := ⟨_, rfl⟩
    rw [← hr] at e1 e2 hlt ⊢
    clear hr
    go_enter Tryz.func9, Tryz.ntmps9
    go_wp2
    go_ret
    exact ⟨rfl, rfl⟩
theorem Lw.image {w0 w : World} {d p : Nat} {F : List Nat} {st : St} {c : Nat} (h : Lw w0 d p 64 F st c w) (img : ByteArray) (hi : img.data.toList = st.S.flatten) : Calls Tryz.prog 15 #[.pointer (some ⟨d, 0, none⟩)] w fun e w' => e = .returned (.string img) ∧ Below w.heap.size w w' :=
  Image_ok d p F 64 st.S st.ps 0 img hi w h.jd.dsk.liv
/-- Pack of whatever: a text that is not too long. -/
theorem rPack_some (e n : Int) (p : ByteArray) (hp : p.size ≤ 600) (w : World) :
    Calls Tryz.prog 6 #[.int .i64 e, .int .i64 n, .string p] w fun r w' => ∃ q c, r = .returned (.tuple #[.string q, .int .i64 c]) ∧ q.size ≤ 640 ∧ Below w.heap.size w w' := by
  by_cases h : BadHead e n p.size
  · refine (rPack_bad e n p h w).mono ?_
    rintro r w' ⟨rfl, rfl⟩
    exact ⟨_, _, rfl, by decide, Below.refl _ _⟩
  · obtain ⟨e', rfl⟩ : ∃ k : Nat, e = k := ⟨e.toNat, by unfold BadHead at h; omega⟩
    obtain ⟨n', rfl⟩ : ∃ k : Nat, n = k := ⟨n.toNat, by unfold BadHead at h; omega⟩
    refine (rPack_ok e' n' p (by unfold BadHead at h; omega) (by unfold BadHead at h; omega) (by omega) w).mono ?_
    rintro r w' ⟨rfl, hb⟩
    refine ⟨_, _, rfl, ?_, hb⟩
    rw [bs_size, Fr.length_record, size_toList]
    unfold Fr.whole
    omega
set_option maxRecDepth 100000 in
set_option maxHeartbeats 4000000 in
theorem opens_walk (f z : Int) (hf1 : -9223372036854775808 ≤ f) (hf2 : f ≤ 9223372036854775807) (hz1 : -9223372036854775808 ≤ z) (hz2 : z ≤ 9223372036854775807)
    (a1 : Option Addr) (b1 o1 l1 c1 : Nat) (f1 : Nat → Int) (a2 : Option Addr) (b2 o2 l2 c2 : Nat) (f2 : Nat → ByteArray) (a3 : Option Addr) (b3 o3 l3 c3 : Nat) (f3 : Nat → Int) (a4 : Option Addr) (b4 o4 l4 c4 : Nat) (f4 : Nat → Int) (w : World)
    (h1 : Nums a1 b1 o1 f1 l1 w) (h2 : Strs a2 b2 o2 f2 l2 w) (h3 : Nums a3 b3 o3 f3 l3 w) (h4 : Nums a4 b4 o4 f4 l4 w) :
    Calls Tryz.prog 3 #[.int .i64 f, .int .i64 z, .slice a1 l1 c1, .slice a2 l2 c2, .slice a3 l3 c3, .slice a4 l4 c4] w fun e w' => e = .returned (.bool true) ∧ Below w.heap.size w w' := by
  have H1 := Lib.hid h1
  have H2 := Lib.hid h2
  have H3 := Lib.hid h3
  have H4 := Lib.hid h4
  clear h1 h2 h3 h4
  go_enter Tryz.func3, Tryz.ntmps3
  go_wp2_with fail
  refine (jknown_true _).mono ?_
  rintro e w1 ⟨rfl, hb1⟩
  have B1 := Lib.hid hb1
  clear hb1
  go_wp2_with fail
  refine (jrack_ok _).mono ?_
  rintro e w2 ⟨p, d, F, st, rfl, hL2⟩
  have W2 : Hid (Wr w d p 0 w2) := Lib.hid (by
    obtain ⟨F', S, ps, acts, k1, k2, k3, k4, k5, k6, k7, k8⟩ := hL2.wr rfl
    have := B1.out.size
    exact ⟨F', S, ps, acts, k1, k2, k3, k4, k5, B1.out.trans (k6.mono this), by omega, fun x hx => by have := k8 x hx; omega⟩)
  clear hL2 B1
  go_wp2_with fail
  go_loopw [16] (fun iv wr => ∃ i : Nat, i ≤ 60 ∧ i ≤ l2 ∧ i ≤ l1 ∧ iv = .int .i64 i ∧ Wr w d p (i * 20) wr) (fun iv _ => 60 - (intOf iv).toNat)
  case atStart => exact ⟨0, by omega, by omega, by omega, rfl, by simpa using W2.out⟩
  case round =>
    clear W2
    obtain ⟨i, hi, hil2, hil1, rfl, hW⟩ := hrel
    by_cases hgo : i < l2 ∧ i < l1 ∧ i < 60
    · obtain ⟨hi2, hi1, hi60⟩ := hgo
      have HW := Lib.hid hW
      obtain ⟨rfl, ct⟩ := H2.out.at hW.old hi2
      have hts := H2.out.2.2.2 i hi2
      clear hW
      go_upto_if 60 with fail
      go_cut [17] from 38 to 121 (fun s17 wx => ∃ t : ByteArray, s17 = .string t ∧ t.size ≤ 600 ∧ wr = wx)
      case first =>
        by_cases hbig : 600 < (f2 i).size
        · have hbi : (600 : Int) < ((f2 i).size : Int) := by omega
          go_wp2
          go_meet
          exact ⟨_, rfl, by rw [ByteArray.size_extract]; omega, rfl⟩
        · have hbi : ¬ (600 : Int) < ((f2 i).size : Int) := by omega
          go_wp2
          go_meet
          exact ⟨_, rfl, by omega, rfl⟩
      case rest =>
        obtain ⟨t, rfl, ht, rfl⟩ := hcut
        clear ct hts
        go_upto_region 11 with fail
        go_cut [72] from 38 to 121 (fun s72 wx => s72 = .bool (decide (i < l3 ∧ i < l4)) ∧ wr = wx)
        case first =>
          by_cases hb3 : i < l3
          · have hb3i : (i : Int) < (l3 : Int) := by omega
            by_cases hb4 : i < l4
            · have hb4i : (i : Int) < (l4 : Int) := by omega
              have hd : decide (i < l3 ∧ i < l4) = true := decide_eq_true ⟨hb3, hb4⟩
              go_wp2
              go_meet
              exact ⟨by rw [hd], rfl⟩
            · have hb4i : ¬ (i : Int) < (l4 : Int) := by omega
              have hd : decide (i < l3 ∧ i < l4) = false := decide_eq_false (fun h => hb4 h.2)
              go_wp2
              go_meet
              exact ⟨by rw [hd], rfl⟩
          · have hb3i : ¬ (i : Int) < (l3 : Int) := by omega
            have hd : decide (i < l3 ∧ i < l4) = false := decide_eq_false (fun h => hb3 h.1)
            go_wp2
            go_meet
            exact ⟨by rw [hd], rfl⟩
        case rest =>
          obtain ⟨rfl, rfl⟩ := hcut
          go_upto_if 72 with fail
          go_cut [17, 18, 19] from 38 to 121 (fun s17 s18 s19 wx => ∃ t : ByteArray, s17 = .string t ∧ t.size ≤ 640 ∧ Wr w d p (i * 20) wx)
          case first =>
            by_cases hb34 : i < l3 ∧ i < l4
            · obtain ⟨rfl, ca⟩ := H3.out.at HW.out.old hb34.1
              obtain ⟨rfl, cb⟩ := H4.out.at HW.out.old hb34.2
              have CP := Lib.hid (fun v : World => rPack_some (f3 i) (f4 i) t ht v)
              have hd : decide (i < l3 ∧ i < l4) = true := decide_eq_true hb34
              have hx3 : i < l3 := hb34.1
              have hx4 : i < l4 := hb34.2
              have S3 : wr.cell? ⟨b3, o3 + i, none⟩ = some (.int .i64 (f3 i)) ∧ wr.cell? ⟨b4, o4 + i, none⟩ = some (.int .i64 (f4 i)) := ⟨ca, cb⟩
              go_wp2_with fail
              go_region_held3 (fun v => v.cell? ⟨b3, o3 + i, none⟩ = some (.int .i64 (f3 i)) ∧ v.cell? ⟨b4, o4 + i, none⟩ = some (.int .i64 (f4 i))) (first | exact S3 | exact S5) (first | (go_at_call 6; refine (CP.out _).mono ?_; rintro r w5 ⟨q5, cc, rfl, hq5, hb5⟩; have hW5 := HW.out.drew.below hb5; have HW5 := Lib.hid hW5; have S5 : w5.cell? ⟨b3, o3 + i, none⟩ = some (.int .i64 (f3 i)) ∧ w5.cell? ⟨b4, o4 + i, none⟩ = some (.int .i64 (f4 i)) := ⟨(H3.out.at hW5.old hx3).2, (H4.out.at hW5.old hx4).2⟩; clear hb5 hW5) | fail)
              clear S3 S5 ca cb
              by_cases hcc : cc = 0
              · have hcc' : (cc == 0) = true := by rw [hcc]; rfl
                go_wp2
                go_meet
                exact ⟨_, rfl, hq5, HW5.out⟩
              · have hcc' : (cc == 0) = false := by rw [beq_eq_false_iff_ne]; exact hcc
                go_wp2
                go_meet
                exact ⟨_, rfl, by omega, HW5.out⟩
            · have hd : decide (i < l3 ∧ i < l4) = false := decide_eq_false hb34
              go_wp2
              go_meet
              exact ⟨_, rfl, by omega, HW.out⟩
          case rest =>
            obtain ⟨t2, rfl, ht2, hW2⟩ := hcut
            have HW2 := Lib.hid hW2
            clear hW2 HW
            obtain ⟨N, hN⟩ : ∃ N : Nat, (63 : Int) - ((t2.size : Int) + 63) % 64 = N ∧ N ≤ 63 ∧ (t2.size + N) % 64 = 0 := ⟨63 - (t2.size + 63) % 64, by omega, by omega, by omega⟩
            obtain ⟨hN1, hN2, hN3⟩ := hN
            have HN1 := Lib.hid hN1
            clear hN1
            go_wp2_with fail
            rw [HN1.out]
            refine (text_is N (by omega) _).mono ?_
            rintro e w6 ⟨rfl, hb6⟩
            have HW6 := Lib.hid (HW2.out.below hb6)
            have hbz : (bs (Fr.zero N)).size = N := by rw [bs_size, Fr.length_zero]
            have hadd : ¬ 9223372036854775807 < t2.size + (bs (Fr.zero N)).size := by omega
            obtain ⟨t3, ht3⟩ : ∃ t3, t3 = t2 ++ bs (Fr.zero N) := ⟨_, rfl⟩
            have h3s : t3.size = t2.size + N := by rw [ht3, ByteArray.size_append, hbz]
            obtain ⟨Q, hQ⟩ : ∃ Q, t3.size = 64 * Q := ⟨t3.size / 64, by omega⟩
            have hQ12 : Q ≤ 12 := by omega
            have HT3 := Lib.hid ht3
            have HQ := Lib.hid hQ
            have h3b : t3.size ≤ 1000 := by omega
            clear hb6 HW2 ht3 hbz h3s hQ hN2 hN3 HN1
            go_wp2_with fail
            rw [← HT3.out]
            go_loopw [20] (fun kv wx => ∃ k : Nat, k ≤ Q ∧ kv = .int .i64 k ∧ Wr w d p (i * 20 + k) wx) (fun kv _ => Q - (intOf kv).toNat)
            case atStart => exact ⟨0, by omega, rfl, by simpa using HW6.out⟩
            case round =>
              clear HW6
              obtain ⟨k, hk, rfl, hWk⟩ := hrel
              have hqq := HQ.out
              by_cases hkQ : k < Q
              · have hks : (k : Int) * 64 < (t3.size : Int) := by omega
                obtain ⟨rfl, ca⟩ := H1.out.at hWk.old hi1
                have HWk := Lib.hid hWk
                obtain ⟨r, hr64, hpk⟩ := pick_some (f1 i) 64 (by omega) (by omega) (H1.out.2.2.2 i hi1)
                have HPK := Lib.hid (fun v : World => (show Calls Tryz.prog 9 #[.int .i64 (f1 i), .int .i64 64] v (fun e w' => e = .returned (.int .i64 r) ∧ v = w') from hpk v))
                have S7 : wr.cell? ⟨b1, o1 + i, none⟩ = some (.int .i64 (f1 i)) := ca
                have hkb : k ≤ 12 := by omega
                obtain ⟨R, hR⟩ : ∃ R : Nat, R = r + k := ⟨_, rfl⟩
                obtain ⟨A, hA⟩ : ∃ A : Nat, A = R % 64 := ⟨_, rfl⟩
                obtain ⟨K4, hK4⟩ : ∃ K4 : Nat, K4 = 64 * k := ⟨_, rfl⟩
                obtain ⟨K5, hK5⟩ : ∃ K5 : Nat, K5 = 64 * k + 64 := ⟨_, rfl⟩
                have hA64 : A < 64 := by omega
                have hqsl : (t3.extract K4 K5).size = 64 := by rw [ByteArray.size_extract]; omega
                obtain ⟨q3, hq3⟩ : ∃ q, q = t3.extract K4 K5 := ⟨_, rfl⟩
                have HXS : Hid (q3.size = 64) := Lib.hid (by rw [hq3]; exact hqsl)
                have hmid : ∀ v : World, (Instr.slice 9 (.string t3) (some (.int .i64 (K4 : Int))) (some (.int .i64 (K5 : Int))) none).run Tryz.prog v = .ok (.string q3) v := fun v => by
                  rw [hq3]; exact run_mid_string (P := Tryz.prog) v 9 t3 .i64 .i64 K4 K5 Tryz.underlying9 (by omega) (by omega)
                have x1 : IntKind.i64.wrap ((r : Int) + (k : Int)) = (R : Int) := by rw [IntWalk.i64_in _ (by omega)]; omega
                have x2 : (R : Int) % 64 = (A : Int) := by omega
                have x3 : (R : Int).tmod 64 = (A : Int) := by rw [Int.tmod_eq_emod_of_nonneg (by omega)]; exact x2
                have x4 : IntKind.i64.wrap (64 * (k : Int)) = (K4 : Int) := by rw [IntWalk.i64_in _ (by omega)]; omega
                have x5 : IntKind.i64.wrap ((K4 : Int) + 64) = (K5 : Int) := by rw [IntWalk.i64_in _ (by omega)]; omega
                have hRb : R ≤ 100 := by omega
                clear hWk hpk ca hA hqsl hq3 hqq hR hK4 hK5
                go_wp2_with fail
                go_region_held3 (fun v => v.cell? ⟨b1, o1 + i, none⟩ = some (.int .i64 (f1 i))) (first | exact S7 | exact S8) (first | (go_at_call 9; refine (HPK.out _).mono ?_; rintro e w8 ⟨rfl, rfl⟩) | (go_at_call 8; refine (HWk.out.drew.write (by omega) A _ hA64 HXS.out).mono ?_; rintro e w8 ⟨rfl, hw8⟩; have HW8 := Lib.hid hw8; have S8 : w8.cell? ⟨b1, o1 + i, none⟩ = some (.int .i64 (f1 i)) := (H1.out.at hw8.old hi1).2; clear hw8) | fail)
                clear S7 S8 hmid x1 x2 x3 x4 x5 HWk HPK
                go_wp2_with fail
                go_roundw
                case rel => exact ⟨k + 1, by omega, by go_num, by rw [← Nat.add_assoc]; exact HW8.out⟩
                case measure => simp [intOf]; omega
              · have hks : ¬ (k : Int) * 64 < (t3.size : Int) := by omega
                have HWk := Lib.hid hWk
                clear hWk hqq
                go_wp2_with fail
                go_roundw
                case rel => exact ⟨i + 1, by omega, by omega, by omega, by go_num, HWk.out.more (by omega)⟩
                case measure => simp [intOf]; omega
    · have HW := Lib.hid hW
      clear hW
      go_upto_region 6 with fail
      go_cut [51] from 38 to 121 (fun s51 wx => s51 = .bool false ∧ wr = wx)
      case first =>
        by_cases c1' : i < l2
        · have c1i : (i : Int) < (l2 : Int) := by omega
          by_cases c2' : i < l1
          · have c2i : (i : Int) < (l1 : Int) := by omega
            have c3i : ¬ (i : Int) < 60 := by omega
            go_wp2
            go_meet
            exact ⟨rfl, rfl⟩
          · have c2i : ¬ (i : Int) < (l1 : Int) := by omega
            go_wp2
            go_meet
            exact ⟨rfl, rfl⟩
        · have c1i : ¬ (i : Int) < (l2 : Int) := by omega
          go_wp2
          go_meet
          exact ⟨rfl, rfl⟩
      case rest =>
        obtain ⟨rfl, rfl⟩ := hcut
        clear hgo hil1 hil2
        go_wp2_with fail
        refine (HW.out.flush (by omega)).mono ?_
        rintro e w3 ⟨rfl, F3, st3, hL3⟩
        have HL := Lib.hid hL3
        clear hL3 HW H1 H2 H3 H4
        go_wp2_with fail
        by_cases hbad : BadRow f z 64
        · refine (Open_bad d p F3 st3 1 f z hf1 hf2 hz1 hz2 hbad _ HL.out.jd).mono ?_
          rintro e w4 ⟨g4, hg4, rfl, hf4, hb4⟩
          have HF4 := Lib.hid hf4
          have HL4 := Lib.hid (HL.out.below hb4)
          clear hg4 hf4 hb4 HL
          go_upto_region 24 with fail
          go_cut [153] from 133 to 153 (fun s153 wx => s153 = .bool true ∧ w4 = wx)
          case first =>
            unfold BadRow at hbad
            by_cases c1' : f < 0
            · go_wp2
              go_meet
              exact ⟨rfl, rfl⟩
            · by_cases c2' : z < 4
              · go_wp2
                go_meet
                exact ⟨rfl, rfl⟩
              · have e2 : z.tmod 2 = z % 2 := Int.tmod_eq_emod_of_nonneg (by omega)
                by_cases c3' : z % 2 = 0
                · have e3 : z.tmod 2 = 0 := by rw [e2]; exact c3'
                  by_cases c4' : 64 < z
                  · go_wp2
                    go_meet
                    exact ⟨rfl, rfl⟩
                  · have c5' : 64 - z < f := by omega
                    go_wp2
                    go_meet
                    exact ⟨rfl, rfl⟩
                · have e3 : (z % 2 == 0) = false := by rw [beq_eq_false_iff_ne]; exact c3'
                  have e4 : (z.tmod 2 == 0) = false := by rw [e2]; exact e3
                  go_wp2
                  go_meet
                  exact ⟨rfl, rfl⟩
          case rest =>
            obtain ⟨rfl, rfl⟩ := hcut
            go_wp2_with fail
            refine (Format_bad d p F3 st3 1 f z hf1 hf2 hz1 hz2 hbad _ HL4.out.jd).mono ?_
            rintro e w5 ⟨g5, hg5, rfl, hf5, hb5⟩
            have HF5 := Lib.hid hf5
            have HF4' : Hid (FaultAt g4 1 0 w5) := Lib.hid ((hb5.block g4 (lt_of_heap HF4.out)).trans HF4.out)
            have HL5 := Lib.hid (HL4.out.below hb5)
            clear hg5 hf5 hb5 HF4 HL4
            go_wp2_with fail
            refine (is_1 g4 _ HF4'.out).mono ?_
            rintro e wz ⟨rfl, rfl⟩
            go_wp2_with fail
            refine (is_1 g5 _ HF5.out).mono ?_
            rintro e wz ⟨rfl, rfl⟩
            go_wp2
            go_ret
            exact ⟨rfl, HL5.out.old⟩
        · obtain ⟨from_, m, hf, hz, hm, hfm⟩ := bad_free 64 f z hbad
          obtain ⟨hS1, hS2, _⟩ := HL.out.jd.dsk.wide
          have hps := HL.out.jd.ps
          obtain ⟨E0, hE0⟩ := epochG_is (bs (Dk.readAt st3.S [] from_))
          obtain ⟨E1, hE1⟩ := epochG_is (bs (Dk.readAt st3.S [] (from_ + m)))
          obtain ⟨act, hact⟩ : ∃ act, act = (if E0 < E1 then 1 else 0) := ⟨_, rfl⟩
          obtain ⟨E, hE⟩ : ∃ E, E = (if E0 < E1 then E1 else E0) := ⟨_, rfl⟩
          obtain ⟨recs, hrecs⟩ := chain_is E _ 1 (rd st3.S [] (from_ + act * m + 1) (m - 1)) (Nat.le_refl _)
          have hR : RightG st3.S from_ m act E recs := ⟨⟨E0, E1, hE0, hE1, hact, hE⟩, hrecs⟩
          obtain ⟨img, himg⟩ := list_of' st3.S.flatten
          obtain ⟨sx, hsx⟩ : ∃ sx, sx = img.extract (64 * from_) (64 * (from_ + 2 * m)) := ⟨_, rfl⟩
          have hBy := bytes_is st3.S from_ m sx hS2 (by omega) hm (by rw [hsx, extract_list, himg])
          have himl : img.size = 4096 := by
            have := (image_rd st3.S 0 64 hS2 (by omega))
            rw [Nat.mul_zero, List.drop_zero] at this
            have h2 := length_rd (S := st3.S) (ps := []) hS2 (by simp) 0 64 (by omega)
            rw [← this, List.length_take] at h2
            have h3 : st3.S.flatten.length = img.size := by rw [← himg, size_toList]
            have h4 : st3.S.flatten.length = 64 * st3.S.length := by
              have : ∀ (S : List (List UInt8)), (∀ x ∈ S, x.length = 64) → S.flatten.length = 64 * S.length := by
                intro S
                induction S with
                | nil => intro _; rfl
                | cons x S ih => intro h; rw [List.flatten_cons, List.length_append, ih (fun s hs => h s (List.mem_cons_of_mem _ hs)), h x (List.mem_cons_self ..), List.length_cons]; omega
              exact this _ hS2
            omega
          have hmid : ∀ v : World, (Instr.slice 9 (.string img) (some (.int .i64 (64 * f))) (some (.int .i64 (64 * (f + z)))) none).run Tryz.prog v = .ok (.string sx) v := fun v => by
            have := run_mid_string (P := Tryz.prog) v 9 img .i64 .i64 (64 * from_) (64 * (from_ + 2 * m)) Tryz.underlying9 (by omega) (by omega)
            rw [show ((64 * from_ : Nat) : Int) = 64 * f by omega, show ((64 * (from_ + 2 * m) : Nat) : Int) = 64 * (f + z) by omega, ← hsx] at this
            exact this
          have n1 : ¬ f < 0 := by omega
          have n2 : ¬ z < 4 := by omega
          have n3 : z % 2 = 0 := by omega
          have n4 : z.tmod 2 = 0 := by rw [Int.tmod_eq_emod_of_nonneg (by omega)]; exact n3
          have n5 : ¬ 64 < z := by omega
          have n6 : ¬ 64 - z < f := by omega
          have n7 : z ≤ 64 := by omega
          have n8 : f ≤ 64 := by omega
          have HF := Lib.hid hf
          have HZ := Lib.hid hz
          have HI := Lib.hid himg
          have HBy := Lib.hid hBy
          by_cases he : E = 0
          · have e01 : E0 = 0 ∧ E1 = 0 := by
              rw [hE] at he
              by_cases hc : E0 < E1
              · rw [if_pos hc] at he; omega
              · rw [if_neg hc] at he; omega
            have CO := Lib.hid (Open_blank d p 64 F3 st3 1 from_ m act recs f z hf hz hfm hm _ HL.out.jd (he ▸ hR))
            have CRd := Lib.hid (fun v : World => rRead_blank sx m hm (by omega) hBy.size (by rw [hBy.one]; exact e01.1 ▸ hE0) (by rw [hBy.two]; exact e01.2 ▸ hE1) v)
            clear hR hrecs hE0 hE1 hact hE hBy himg hsx hf hz he e01 hbad hS1 hS2 hps himl
            refine CO.out.mono ?_
            rintro e w4 ⟨g4, hg4, rfl, hf4, hb4⟩
            have HF4 := Lib.hid hf4
            have HL4 := Lib.hid (HL.out.below hb4)
            clear hg4 hf4 hb4 HL CO
            go_wp2_with fail
            refine (HL4.out.image img HI.out).mono ?_
            rintro e w5 ⟨rfl, hb5⟩
            have HF5 : Hid (FaultAt g4 15 0 w5) := Lib.hid ((hb5.block g4 (lt_of_heap HF4.out)).trans HF4.out)
            have HL5 := Lib.hid (HL4.out.below hb5)
            clear hb5 HF4 HL4
            go_wp2_with fail
            refine (CRd.out _).mono ?_
            rintro e w6 ⟨rfl, hb6⟩
            have HF6 : Hid (FaultAt g4 15 0 w6) := Lib.hid ((hb6.block g4 (lt_of_heap HF5.out)).trans HF5.out)
            have HL6 := Lib.hid (HL5.out.below hb6)
            clear hb6 HF5 HL5
            go_wp2_with (first | (refine wpList_alloc rfl 44 rfl _ allocFound ?_; go_frame) | (refine wpList_store_whole rfl 44 _ _ rfl w6.heap.size (fndV 0 (.slice none 0 0) 0 false) (fndV 0 (.slice none 0 0) 0 false) 44 rfl rfl (heap_alloc_new _ _) rfl (by kernel_rfl) (fnd_ones _ _ _ _ _ _) ?_; intro w7 h7 k7 s7; have b67 : Below w6.heap.size w6 w7 := ((Below.refl w6.heap.size w6).alloc (Nat.le_refl _) _).trans ((k7.out.mono (by simp) (fun _ _ hm => hm)).below (fun y hy => by simp at hy; omega)); have HF7 : Hid (FaultAt g4 15 0 w7) := Lib.hid ((b67.block g4 (lt_of_heap HF6.out)).trans HF6.out); have HL7 := Lib.hid (HL6.out.below b67); have d0 : w7.cell? ⟨w6.heap.size, 0, none⟩ = some (.int .i64 0) := cell_of_list h7.out 0; clear k7 s7 b67; go_frame) | (go_at_call 13; refine (is_15 g4 _ HF7.out).mono ?_; rintro e wz ⟨rfl, rfl⟩) | fail)
            go_ret
            exact ⟨rfl, HL7.out.old⟩
          · have he1 : 1 ≤ E := by omega
            have CO := Lib.hid (Open_gen d p 64 F3 st3 1 from_ m act E recs f z hf hz hfm hm _ HL.out.jd hR he1)
            have hch2 : Chain E 1 (((sx.data.toList.drop (act * (64 * m))).take (64 * m)).drop 64) recs := by
              rw [hBy.rest act (by rw [hact]; split <;> omega)]; exact hrecs
            have CRd := Lib.hid (fun v : World => rRead_is sx m E0 E1 act E recs hm (by omega) hBy.size (by rw [hBy.one]; exact hE0) (by rw [hBy.two]; exact hE1) hact hE he1 hch2 v)
            have hsa : secsAll recs ≤ m - 1 := by
              have h1 := hrecs.len
              rw [length_rd hS2 (by simp) _ _ (by
                have ham : act * m ≤ m := by
                  have : act = 0 ∨ act = 1 := by rw [hact]; split <;> omega
                  rcases this with h0 | h0 <;> rw [h0] <;> omega
                omega)] at h1
              omega
            have hll := length_le_secsAll recs
            have hEz : ((E : Int) == 0) = false := by rw [beq_eq_false_iff_ne]; omega
            have hm32 : m ≤ 32 := by omega
            have hzm : z.tdiv 2 - 1 = ((m - 1 : Nat) : Int) := by rw [Int.tdiv_eq_ediv_of_nonneg (by omega)]; omega
            have hzm2 : z / 2 - 1 = ((m - 1 : Nat) : Int) := by omega
            clear hR hrecs hE0 hE1 hact hE hBy himg hsx hf hz he hbad hS1 hS2 hps himl hch2
            refine CO.out.mono ?_
            rintro e w4 ⟨j, v, hj, rfl, hjd, hJ, hown, hb4⟩
            obtain ⟨vb, vc, rfl⟩ := own_slice hown
            have HJ4 := Lib.hid hJ
            have HO4 := Lib.hid (Texts.of_own hown)
            have HL4 := Lib.hid (HL.out.below hb4)
            have hjl : j < w4.heap.size := lt_of_heap hJ
            clear hj hjd hJ hown hb4 HL CO
            go_wp2_with fail
            refine (HL4.out.image img HI.out).mono ?_
            rintro e w5 ⟨rfl, hb5⟩
            have HJ5 := Lib.hid (HJ4.out.keep (hb5.block j hjl))
            have HO5 := Lib.hid (HO4.out.below (Nat.le_refl _) hb5)
            have HL5 := Lib.hid (HL4.out.below hb5)
            have hjl5 : j < w5.heap.size := Nat.lt_of_lt_of_le hjl hb5.size
            clear hb5 HJ4 HO4 HL4 hjl
            go_wp2_with fail
            refine (CRd.out _).mono ?_
            rintro e w6 ⟨v2, rfl, hown2, hb6⟩
            obtain ⟨vb2, vc2, rfl⟩ := own_slice hown2
            have HJ6 := Lib.hid (HJ5.out.keep (hb6.block j hjl5))
            have HO6 := Lib.hid (HO5.out.below (Nat.le_refl _) hb6)
            have HP6 := Lib.hid (Texts.of_own hown2)
            have HL6 := Lib.hid (HL5.out.below hb6)
            have hjl6 : j < w6.heap.size := Nat.lt_of_lt_of_le hjl5 hb6.size
            clear hb6 HJ5 HO5 HL5 hjl5 hown2
            go_wp2_with (first | (refine wpList_alloc rfl 44 rfl _ allocFound ?_; go_frame) | (refine wpList_store_whole rfl 44 _ _ rfl w6.heap.size (fndV E (.slice vb2 recs.length vc2) ((m - 1 - secsAll recs : Nat) : Int) (decide (act = 1))) (fndV 0 (.slice none 0 0) 0 false) 44 rfl rfl (heap_alloc_new _ _) rfl (by kernel_rfl) (fnd_ones _ _ _ _ _ _) ?_; intro w7 h7 k7 s7; have b67 : Below w6.heap.size w6 w7 := ((Below.refl w6.heap.size w6).alloc (Nat.le_refl _) _).trans ((k7.out.mono (by simp) (fun _ _ hm => hm)).below (fun y hy => by simp at hy; omega)); have HJ7 := Lib.hid (HJ6.out.keep (b67.block j hjl6)); have HO7 := Lib.hid (HO6.out.below (Nat.le_refl _) b67); have HP7 := Lib.hid (HP6.out.below (Nat.le_refl _) b67); have HL7 := Lib.hid (HL6.out.below b67); have d0 : w7.cell? ⟨w6.heap.size, 0, none⟩ = some (.int .i64 E) := cell_of_list h7.out 0; have d1 : w7.cell? ⟨w6.heap.size, 1, none⟩ = some (.slice vb2 recs.length vc2) := cell_of_list h7.out 1; have d2 : w7.cell? ⟨w6.heap.size, 2, none⟩ = some (.int .i64 ((m - 1 - secsAll recs : Nat) : Int)) := cell_of_list h7.out 2; have hjl7 : j < w7.heap.size := Nat.lt_of_lt_of_le hjl6 b67.size; have hfl7 : w6.heap.size < w7.heap.size := lt_of_heap h7.out; clear k7 s7 b67; go_frame) | fail)
            obtain ⟨fb, hfb⟩ : ∃ fb, fb = w6.heap.size := ⟨_, rfl⟩
            rw [← hfb] at d0 d1 d2 hfl7 ⊢
            refine (same_is _ _ recs (by omega) _ HO7.out HP7.out).mono ?_
            rintro e w8 ⟨rfl, hb8⟩
            have HJ8 := Lib.hid (HJ7.out.keep (hb8.block j hjl7))
            have HL8 := Lib.hid (HL7.out.below hb8)
            have hjl8 : j < w8.heap.size := Nat.lt_of_lt_of_le hjl7 hb8.size
            have hfl8 : fb < w8.heap.size := Nat.lt_of_lt_of_le hfl7 hb8.size
            have e0 : w8.cell? ⟨fb, 0, none⟩ = some (.int .i64 E) := (World.cell?_of_block (w := w7) (a := ⟨fb, 0, none⟩) (hb8.block fb hfl7)).trans d0
            have e2 : w8.cell? ⟨fb, 2, none⟩ = some (.int .i64 ((m - 1 - secsAll recs : Nat) : Int)) := (World.cell?_of_block (w := w7) (a := ⟨fb, 2, none⟩) (hb8.block fb hfl7)).trans d2
            clear hb8 HJ7 HO7 HP7 HL7 d0 d1 d2 hfb h7 hmid HL6 HJ6 HO6 HP6 CRd HI HBy
            go_wp2_with fail
            obtain ⟨S, hS⟩ : ∃ S : World → Prop, S = fun v => Below w8.heap.size w8 v := ⟨_, rfl⟩
            have hSb : ∀ v v', S v → Below v.heap.size v v' → S v' := by rw [hS]; exact fun v v' hv hb => hv.trans (hb.mono hv.size)
            have hSv : ∀ v, S v → Below w8.heap.size w8 v := by rw [hS]; exact fun v h => h
            have SC1 := Lib.hid (quiet_S hSb (f := 17) (args := #[.pointer (some ⟨j, 0, none⟩)]) (v := .int .i64 ((m - 1 - secsAll recs : Nat) : Int)) (fun v hv => by
              rw [Nat.sub_sub]
              exact Left_is j d from_ m act E (1 + recs.length) (1 + secsAll recs) false (by omega) (by omega) v (HJ8.out.keep ((show Below w8.heap.size w8 v by rw [hS] at hv; exact hv).block j hjl8))))
            have SC2 := Lib.hid (quiet_S hSb (f := 18) (args := #[.pointer (some ⟨j, 0, none⟩)]) (v := .int .i64 E) (fun v hv => (Epoch_is j d from_ m act E (1 + recs.length) (1 + secsAll recs) false v (HJ8.out.keep ((show Below w8.heap.size w8 v by rw [hS] at hv; exact hv).block j hjl8))).mono fun _ _ ⟨he, hw⟩ => ⟨he, hw ▸ Below.refl _ _⟩))
            have SC3 := Lib.hid (quiet_S hSb (f := 19) (args := #[.pointer (some ⟨j, 0, none⟩)]) (v := .int .i64 (recs.length : Nat)) (fun v hv => (show Calls Tryz.prog 19 #[.pointer (some ⟨j, 0, none⟩)] v (fun r w' => r = .returned (.int .i64 (recs.length : Nat)) ∧ v = w') by
              have := Len_is j d from_ m act E (1 + recs.length) (1 + secsAll recs) false (by omega) (by omega) v (HJ8.out.keep ((show Below w8.heap.size w8 v by rw [hS] at hv; exact hv).block j hjl8))
              rw [Nat.add_sub_cancel_left] at this
              exact this).mono fun _ _ ⟨he, hw⟩ => ⟨he, hw ▸ Below.refl _ _⟩))
            have SC4 := Lib.hid (quiet_S hSb (f := 20) (args := #[.pointer (some ⟨j, 0, none⟩)]) (v := .int .i64 ((m - 1 : Nat) : Int)) (fun v hv => (Half_is j d from_ m act E (1 + recs.length) (1 + secsAll recs) false (by omega) (by omega) v (HJ8.out.keep ((show Below w8.heap.size w8 v by rw [hS] at hv; exact hv).block j hjl8))).mono fun _ _ ⟨he, hw⟩ => ⟨he, hw ▸ Below.refl _ _⟩))
            have S4 : S w8.drew := by rw [hS]; exact (Below.refl _ _).drew
            have L0 : ∀ u : Of S, u.w.cell? ⟨fb, 0, none⟩ = some (.int .i64 E) := fun u => (World.cell?_of_block (w := w8) (a := ⟨fb, 0, none⟩) ((hSv _ u.ok).block fb hfl8)).trans e0
            have L2 : ∀ u : Of S, u.w.cell? ⟨fb, 2, none⟩ = some (.int .i64 ((m - 1 - secsAll recs : Nat) : Int)) := fun u => (World.cell?_of_block (w := w8) (a := ⟨fb, 2, none⟩) ((hSv _ u.ok).block fb hfl8)).trans e2
            have HS4 := Lib.hid S4
            haveI : Nonempty (Of S) := ⟨⟨_, S4⟩⟩
            have HSS := Lib.hid hS
            clear S4 hS hSb hSv e0 e2 HJ8 n1 n2 n3 n4 n5 n6 HF HZ
            refine wp_region_S S (by kernel_rfl) (by kernel_rfl) HS4.out ?_
            repeat (go_big_quiet_step (first | (go_at_call 17; with_reducible exact SC1.out _) | (go_at_call 18; with_reducible exact SC2.out _) | (go_at_call 19; with_reducible exact SC3.out _) | (go_at_call 20; with_reducible exact SC4.out _)))
            refine wpQuiet_nil ?_
            rintro w9 ⟨u9, e9⟩
            have h9 : S w9 := e9 ▸ u9.ok
            rw [HSS.out] at h9
            have HB9 := Lib.hid h9
            clear e9 u9 h9 this SC1 SC2 SC3 SC4 HS4 HSS L0 L2
            go_wp2
            go_ret
            exact ⟨rfl, HL8.out.old.trans (HB9.out.mono HL8.out.old.size)⟩
end Go.Proofs.YtmobjpandmdmdaaGreatDoor
