/- The document's disk: losing. -/
import Derived.Test.YtkpnllaegkdkkaaPFlush
import Derived.BigRegion
namespace Go.Proofs.Ytkpnllaegkdkkaa
open Go.RowKit

/-- One that waits, as a new box of it is filled. -/
def late0 : List Value := [.int .i64 0, .string ⟨#[]⟩]
theorem alloc_late (w : World) : (Instr.alloc 91 true (.tuple #[])).run Try.prog w = .ok (.pointer (some ⟨w.heap.size, 0, none⟩)) (w.alloc (.cells late0.toArray 91)) := by kernel_rfl
theorem size_late : (Try.prog.info? 91).map (·.size) = some 2 := by kernel_rfl
theorem extract_rest' (q : ByteArray) (m : Nat) : (q.extract m q.size).data.toList = q.data.toList.drop m := by
  rw [ByteArray.data_extract, Array.toList_extract, List.extract_eq_take_drop]
  exact List.take_of_length_le (by rw [List.length_drop]; exact Nat.le_of_eq rfl)
theorem lost_text (d s : ByteArray) (c : Nat) (l m : List UInt8) (hl : Value.string d = sv l) (hm : Value.string s = sv m) : Value.string (d.extract 0 c ++ s.extract c s.size) = sv (l.take c ++ m.drop c) := by
  have e1 : d.data.toList = l := by have := hl; simp only [sv, Value.string.injEq] at this; rw [this]
  have e2 : s.data.toList = m := by have := hm; simp only [sv, Value.string.injEq] at this; rw [this]
  have : (d.extract 0 c ++ s.extract c s.size).data.toList = l.take c ++ m.drop c := by
    rw [ByteArray.data_append, Array.toList_append]
    congr 1
    · rw [← e1, ByteArray.data_extract, Array.toList_extract, List.extract_eq_take_drop, List.drop_zero, Nat.sub_zero]
    · rw [← e2, extract_rest']
  rw [← this]; rfl
theorem extract_none (d : ByteArray) : d.extract 0 0 = ByteArray.empty := by
  apply ByteArray.ext; rw [ByteArray.data_extract]; simp
theorem extract_end (d : ByteArray) : d.extract 64 64 = ByteArray.empty := by
  apply ByteArray.ext; rw [ByteArray.data_extract]; simp; omega
theorem size_of_sv {d : ByteArray} {l : List UInt8} (h : Value.string d = sv l) : d.size = l.length := by
  simp only [sv, Value.string.injEq] at h; rw [h]; simp [ByteArray.size]
section
variable {r q : Nat} {wv : Value} {n : Nat} {S : List (List UInt8)} {ps : List Dk.Wr} {dead : Bool} {life : Int} {w : World}
set_option maxRecDepth 100000 in
set_option maxHeartbeats 2000000 in
theorem rlose_at {g cap : Nat} (h : RAt r q (.slice (some ⟨g, 0, none⟩) n cap) wv n S ps dead life w) (kv : Value) (kb ko : Nat) (ks : List Nat) (keep : List Bool) (t : Int) (hy : Yes kv kb ko ks keep w) (hks : ∀ k ∈ ks, k < w.heap.size ∧ k ≠ g ∧ k ≠ r) :
    Calls Try.prog 26 #[.pointer (some ⟨r, 0, none⟩), kv, .int .i64 t] w fun e w' => e = .returned (.tuple #[]) ∧
      RAt r q (.slice (some ⟨g, 0, none⟩) n cap) (.slice none 0 0) n (Dk.settleTo S ps (Dk.keptAt keep (Dk.clamp t)) ps.length) [] dead life w' ∧ Kept w.heap.size [g, r] w w' := by
  have H := Lib.hid h
  have HY := Lib.hid hy
  have HKS := Lib.hid hks
  obtain ⟨c, hc⟩ : ∃ c, c = Dk.clamp t := ⟨_, rfl⟩
  have hc64 : c ≤ 64 := by rw [hc]; exact Dk.clamp_le t
  have hcs : (t < 0 ∧ c = 0) ∨ (0 ≤ t ∧ t ≤ 64 ∧ t = (c : Int)) ∨ (64 < t ∧ c = 64) := by
    rcases Int.lt_or_le t 0 with h0 | h0
    · left; have := clamp_neg h0; rw [← hc] at this; omega
    · rcases Int.lt_or_le 64 t with h1 | h1
      · right; right; have := clamp_big h1; rw [← hc] at this; omega
      · right; left; have := clamp_mid h0 h1; rw [← hc] at this; omega
  rw [← hc]
  obtain ⟨ka, kcap, rfl, hka⟩ := hy.form
  obtain ⟨K, hK⟩ : ∃ K, K = keep.length := ⟨_, rfl⟩
  have hKf := hy.few
  rw [← hK] at hKf
  have HKA := Lib.hid (And.intro hK hka)
  obtain ⟨N, hN⟩ : ∃ N, N = ps.length := ⟨_, rfl⟩
  have HN := Lib.hid hN
  have hfew := h.few
  rw [← hN] at hfew
  have hr := h.lt
  rw [← hK]
  have HA := Lib.hid alloc_late
  clear h hy hks hc hka hK hN
  rcases hcs with ⟨h0, h1⟩ | ⟨h0, h1, rfl⟩ | ⟨h0, h1⟩
  rotate_left 1
  have hd0 : decide ((c : Int) < 0) = false := by (rw [decide_eq_false_iff_not]; omega)
  have hd1 : decide ((64 : Int) < (c : Int)) = false := by (rw [decide_eq_false_iff_not]; omega)
  rotate_left 1
  have hd0 : decide (t < 0) = false := by (rw [decide_eq_false_iff_not]; omega)
  have hd1 : decide ((64 : Int) < t) = true := by (rw [decide_eq_true_iff]; omega)
  rotate_left 1
  all_goals
    go_enter Try.func26, Try.ntmps26
    go_wp2_with fail
    go_loopw [6, 7, 8] (fun fv i b wr => ∃ (j : Nat) (fb : Bool), j ≤ N ∧ i = .int .i64 j ∧ fv = .bool fb ∧ (fb = true → Dk.tornAt keep c j = c) ∧ (fb = false → Dk.tornAt keep c j = 0) ∧ RAt r q (.slice (some ⟨g, 0, none⟩) n cap) wv n (Dk.settleTo S ps (Dk.keptAt keep c) j) ps dead life wr ∧ Kept w.heap.size [g] w wr) (fun fv i b _ => N - (intOf i).toNat)
    case atStart => exact ⟨0, true, by omega, rfl, rfl, fun _ => Dk.tornAt_zero _ _, fun h => by simp at h, by rw [Dk.settleTo_zero]; exact H.out, Kept.refl _ _ _⟩
    case round =>
      obtain ⟨j, fb, hj, rfl, rfl, ht1, ht0, hR, hK⟩ := hrel
      obtain ⟨b, lcap, hwv, hlate⟩ := hR.late
      have c2 := hR.c2
      have c3 := hR.c3
      rw [hwv, ← HN.out] at c3
      rw [← HN.out] at hlate
      have HR := Lib.hid hR
      have HK := Lib.hid hK
      have HT1 := Lib.hid ht1
      have HT0 := Lib.hid ht0
      clear hR hK ht1 ht0
      by_cases hlt : j < N
      · obtain ⟨g', rfl, hg', hcc⟩ := hlate (by omega)
        obtain ⟨k0, k1⟩ := hcc j hlt
        have hjp : j < ps.length := by rw [← HN.out]; exact hlt
        obtain ⟨x, hx⟩ : ∃ x, x = ps.getD j (0, []) := ⟨_, rfl⟩
        have hxm : x.1 < n ∧ x.2.length = 64 := by rw [hx]; exact HR.out.wrs _ (Dk.getD_mem_of_lt hjp)
        rw [← hx] at k0 k1
        obtain ⟨at', hat⟩ : ∃ y : Nat, y = x.1 := ⟨_, rfl⟩
        have hax : at' < n := by rw [hat]; exact hxm.1
        rw [← hat] at k0
        obtain ⟨ca, fa⟩ := HR.out.round at' hax
        have hn2 := HR.out.n2
        obtain ⟨s0, hs0⟩ : ∃ s0 : ByteArray, .string s0 = sv ((Dk.settleTo S ps (Dk.keptAt keep c) j).getD at' []) := ⟨_, rfl⟩
        have hsz0 : s0.size = 64 := by
          rw [size_of_sv hs0, List.getD, List.getElem?_eq_getElem (by rw [HR.out.len]; exact hax)]
          exact HR.out.wide _ (List.getElem_mem _)
        rw [← hs0] at ca
        obtain ⟨d0, hd0⟩ : ∃ d0 : ByteArray, .string d0 = sv x.2 := ⟨_, rfl⟩
        have hszd : d0.size = 64 := by rw [size_of_sv hd0]; exact hxm.2
        rw [← hd0] at k1
        obtain ⟨cs, hcs⟩ : ∃ cs, cs = [Value.int .i64 (at' : Int), .string d0] := ⟨_, rfl⟩
        have hrg : wr.rangeAt g' (j * 2) cs := by
          rw [hcs]
          intro i v hv
          rcases i with _ | _ | i
          · simp at hv; rw [← hv]; exact k0
          · simp at hv; rw [← hv]; exact k1
          · simp at hv
        have hcl : cs.length = 2 := by rw [hcs]; rfl
        have hco : ∀ v ∈ cs, v.oneCell' = true := by rw [hcs]; intro u hu; simp only [List.mem_cons, List.not_mem_nil, or_false] at hu; rcases hu with rfl | rfl <;> rfl
        have HRG := Lib.hid hrg
        have HCL := Lib.hid hcl
        have HCO := Lib.hid hco
        have HCS := Lib.hid hcs
        have HS0 := Lib.hid hs0
        have HD0 := Lib.hid hd0
        have HX := Lib.hid hx
        have HXM := Lib.hid hxm
        have HAT := Lib.hid hat
        have hall : ∀ w1 : World, Kept (wr.alloc (.cells late0.toArray 91)).heap.size [wr.heap.size] (wr.alloc (.cells late0.toArray 91)) w1 → w1.heap[wr.heap.size]? = some (.cells cs.toArray 91 (0, 0)) →
            RAt r q (.slice (some ⟨g, 0, none⟩) n cap) wv n (Dk.settleTo S ps (Dk.keptAt keep c) j) ps dead life w1 ∧ Kept w.heap.size [g] w w1 ∧ w1.cell? ⟨r, 2, none⟩ = some (.slice (some ⟨g, 0, none⟩) n cap) ∧ w1.cell? ⟨g, at', none⟩ = some (.string s0) ∧ w1.frozen? ⟨g, at', none⟩ = false ∧
            w1.cell? ⟨wr.heap.size, 0, none⟩ = some (.int .i64 (at' : Int)) ∧ w1.cell? ⟨wr.heap.size, 1, none⟩ = some (.string d0) ∧ (j < K → ka = some ⟨kb, ko, none⟩ ∧ w1.cell? ⟨kb, ko + j, none⟩ = some (.bool (keep.getD j false))) := by
          intro w1 hk1 hg1
          have b0 : Below wr.heap.size wr w1 := ((Below.refl _ _).alloc (Nat.le_refl _) _).trans ((hk1.mono (B := wr.heap.size) (ws := [wr.heap.size]) (by simp) (fun _ _ h => h)).below (by simp))
          have hR1 := HR.out.keep (w' := w1) (b0.block r HR.out.lt) (fun x hx => b0.block x (HR.out.has.lt x hx).2) (fun x hx => b0.block x (HR.out.wait.lt x hx).2)
          have hz := HK.out.size
          refine ⟨hR1, HK.out.trans ((Kept.of_below b0).mono hz (fun _ _ h => h)), hR1.c2, ?_, hR1.has.frozenAt at', ?_, ?_, fun hjk => ?_⟩
          · rw [(hR1.round at' hax).1, ← HS0.out]
          · rw [cell_of_list hg1, HCS.out]; rfl
          · rw [cell_of_list hg1, HCS.out]; rfl
          · have hkk := HKA.out
            refine ⟨by rcases hkk.2 with h | h; omega; exact h, ?_⟩
            have hin : kb ∈ ks := by rcases HY.out.ins with h | h; omega; exact h
            have h3 := HKS.out kb hin
            have e1 : w1.heap[kb]? = w.heap[kb]? := (b0.block kb (by omega)).trans (HK.out.block kb h3.1 (by simp; exact h3.2.1))
            exact (World.cell?_of_block (w := w) (a := ⟨kb, ko + j, none⟩) e1).trans (HY.out.cells j (by omega))
        have hlen : (Dk.settleTo S ps (Dk.keptAt keep c) j).length = n := HR.out.len
        obtain ⟨old, hold⟩ : ∃ old, old = (Dk.settleTo S ps (Dk.keptAt keep c) j).getD at' [] := ⟨_, rfl⟩
        have hol : old.length = 64 := by
          rw [hold, List.getD, List.getElem?_eq_getElem (by rw [hlen]; exact hax)]
          exact HR.out.wide _ (List.getElem_mem _)
        have fk : keep.getD j false = true → (Dk.settleTo S ps (Dk.keptAt keep c) j).set at' x.2 = Dk.settleTo S ps (Dk.keptAt keep c) (j + 1) := fun hb => by
          rw [Dk.settleTo_succ, ← HX.out, Dk.keptAt_kept hb, put_whole _ x HR.out.wide (by rw [hlen]; exact HXM.out.1) HXM.out.2, HAT.out]
        have fl : keep.getD j false = false → Dk.tornAt keep c j = c → (Dk.settleTo S ps (Dk.keptAt keep c) j).set at' (x.2.take c ++ old.drop c) = Dk.settleTo S ps (Dk.keptAt keep c) (j + 1) := fun hb ht => by
          rw [Dk.settleTo_succ, ← HX.out, Dk.keptAt_lost hb, ht, Dk.put_eq, ← HAT.out, ← hold]
        have fn : keep.getD j false = false → Dk.tornAt keep c j = 0 → Dk.settleTo S ps (Dk.keptAt keep c) j = Dk.settleTo S ps (Dk.keptAt keep c) (j + 1) := fun hb ht => by
          rw [Dk.settleTo_succ, ← HX.out, Dk.keptAt_lost hb, ht, Dk.put_none _ _ (by rw [hlen]; exact HXM.out.1)]
        have FK := Lib.hid fk
        have FL := Lib.hid fl
        have FN := Lib.hid fn
        have ftx := lost_text d0 s0 c x.2 old HD0.out (by rw [hold]; exact HS0.out)
        rw [hsz0] at ftx
        have ftl : (x.2.take c ++ old.drop c).length = 64 := by rw [List.length_append, List.length_take, List.length_drop, HXM.out.2, hol]; omega
        have FTX := Lib.hid ftx
        have ft0 : c = 0 → Value.string (s0.extract 0 64) = sv (x.2.take c ++ old.drop c) := fun h => by
          rw [← ftx, h, extract_none, ByteArray.empty_append]
        have ft1 : c = 64 → Value.string (d0.extract 0 64) = sv (x.2.take c ++ old.drop c) := fun h => by
          rw [← ftx, h, extract_end s0, ByteArray.append_empty]
        have FTX0 := Lib.hid ft0
        have FTX1 := Lib.hid ft1
        clear ft0 ft1
        have FTL := Lib.hid ftl
        have HALL := Lib.hid hall
        clear fk fl fn hold hol ftx ftl hlen
        clear hrg hcl hco hcs hs0 hd0 hx hxm hat hlate hcc k0 k1 hall ca fa
        by_cases hjk : j < K
        · obtain ⟨kj, hkj⟩ : ∃ kj, kj = keep.getD j false := ⟨_, rfl⟩
          have HKJ := Lib.hid hkj
          cases kj with
          | true =>
            clear hkj
            go_wp2_with (first | (refine wpList_load_mid rfl 91 _ rfl g' (j * 2) rfl cs _ HRG.out Try.underlying91 rfl (by rw [HCL.out]; exact size_late) ?_; go_frame) | (refine wpList_alloc rfl 91 rfl late0 HA.out ?_; go_frame) | (refine wpList_store_whole rfl 91 _ _ rfl wr.heap.size cs late0 91 rfl rfl (heap_alloc_new _ _) (by rw [HCL.out]; rfl) (by rw [HCL.out]; exact size_late) HCO.out ?_; intro w1 hg1 hk1 hs1; obtain ⟨m0, m1, e2, ea, ef, eb0, eb1, ek⟩ := HALL.out w1 hk1.out hg1.out; obtain ⟨hka2, ek2⟩ := ek hjk; rw [← HKJ.out] at ek2; clear ek; subst hka2; have M0 := Lib.hid m0; have M1 := Lib.hid m1; clear m0 m1; go_frame) | fail)
            go_region
            go_wp2
            go_roundw
            case rel =>
              obtain ⟨hp, hkp⟩ := M0.out.put at' x.2 HXM.out.2
              rw [FK.out HKJ.out.symm, ← HD0.out] at hp
              rw [← HD0.out] at hkp
              refine ⟨j + 1, fb, by omega, by go_num, rfl, fun h => ?_, fun h => ?_, ?_, ?_⟩
              · rw [Dk.tornAt_kept HKJ.out.symm]; exact HT1.out h
              · rw [Dk.tornAt_kept HKJ.out.symm]; exact HT0.out h
              · exact hp.keep rfl (fun _ _ => rfl) (fun _ _ => rfl)
              · exact (M1.out.trans (hkp.mono M1.out.size (fun _ _ h => h))).drew
            case measure => simp [intOf]; omega
          | false =>
            clear hkj
            cases fb with
            | true =>
              go_wp2_with (first | (refine wpList_load_mid rfl 91 _ rfl g' (j * 2) rfl cs _ HRG.out Try.underlying91 rfl (by rw [HCL.out]; exact size_late) ?_; go_frame) | (refine wpList_alloc rfl 91 rfl late0 HA.out ?_; go_frame) | (refine wpList_store_whole rfl 91 _ _ rfl wr.heap.size cs late0 91 rfl rfl (heap_alloc_new _ _) (by rw [HCL.out]; rfl) (by rw [HCL.out]; exact size_late) HCO.out ?_; intro w1 hg1 hk1 hs1; obtain ⟨m0, m1, e2, ea, ef, eb0, eb1, ek⟩ := HALL.out w1 hk1.out hg1.out; obtain ⟨hka2, ek2⟩ := ek hjk; rw [← HKJ.out] at ek2; clear ek; subst hka2; have M0 := Lib.hid m0; have M1 := Lib.hid m1; clear m0 m1; go_frame) | fail)
              go_region
              go_wp2
              go_roundw
              case rel =>
                have FIN : ∀ s', Value.string s' = sv (x.2.take c ++ old.drop c) → RAt r q (.slice (some ⟨g, 0, none⟩) n cap) wv n (Dk.settleTo S ps (Dk.keptAt keep c) (j + 1)) ps dead life ((w1.setCell ⟨g, at', none⟩ (.string s')).drew) ∧ Kept w.heap.size [g] w ((w1.setCell ⟨g, at', none⟩ (.string s')).drew) := by
                  intro s' hs'
                  obtain ⟨hp, hkp⟩ := M0.out.put at' _ FTL.out
                  rw [FL.out HKJ.out.symm (HT1.out (by simp)), ← hs'] at hp
                  rw [← hs'] at hkp
                  exact ⟨hp.keep rfl (fun _ _ => rfl) (fun _ _ => rfl), (M1.out.trans (hkp.mono M1.out.size (fun _ _ h => h))).drew⟩
                have TL : Dk.tornAt keep c (j + 1) = 0 := Dk.tornAt_lost HKJ.out.symm
                first | exact ⟨j + 1, false, by omega, by go_num, rfl, fun h => by simp at h, fun _ => TL, FIN _ FTX.out⟩ | exact ⟨j + 1, false, by omega, by go_num, rfl, fun h => by simp at h, fun _ => TL, FIN _ (FTX0.out h1)⟩ | exact ⟨j + 1, false, by omega, by go_num, rfl, fun h => by simp at h, fun _ => TL, FIN _ (FTX1.out h1)⟩
              case measure => simp [intOf]; omega
            | false =>
              go_wp2_with (first | (refine wpList_load_mid rfl 91 _ rfl g' (j * 2) rfl cs _ HRG.out Try.underlying91 rfl (by rw [HCL.out]; exact size_late) ?_; go_frame) | (refine wpList_alloc rfl 91 rfl late0 HA.out ?_; go_frame) | (refine wpList_store_whole rfl 91 _ _ rfl wr.heap.size cs late0 91 rfl rfl (heap_alloc_new _ _) (by rw [HCL.out]; rfl) (by rw [HCL.out]; exact size_late) HCO.out ?_; intro w1 hg1 hk1 hs1; obtain ⟨m0, m1, e2, ea, ef, eb0, eb1, ek⟩ := HALL.out w1 hk1.out hg1.out; obtain ⟨hka2, ek2⟩ := ek hjk; rw [← HKJ.out] at ek2; clear ek; subst hka2; have M0 := Lib.hid m0; have M1 := Lib.hid m1; clear m0 m1; go_frame) | fail)
              go_roundw
              case rel =>
                refine ⟨j + 1, false, by omega, by go_num, rfl, fun h => by simp at h, fun _ => Dk.tornAt_lost HKJ.out.symm, ?_, M1.out⟩
                rw [← FN.out HKJ.out.symm (HT0.out (by simp))]; exact M0.out
              case measure => simp [intOf]; omega
        · have HKJ : Hid (false = keep.getD j false) := Lib.hid (by rw [List.getD, List.getElem?_eq_none (by have := HKA.out.1; omega)]; rfl)
          have hd : decide ((j : Int) < (K : Int)) = false := by rw [decide_eq_false_iff_not]; omega
          cases fb with
          | true =>
            go_wp2_with (first | (refine wpList_load_mid rfl 91 _ rfl g' (j * 2) rfl cs _ HRG.out Try.underlying91 rfl (by rw [HCL.out]; exact size_late) ?_; go_frame) | (refine wpList_alloc rfl 91 rfl late0 HA.out ?_; go_frame) | (refine wpList_store_whole rfl 91 _ _ rfl wr.heap.size cs late0 91 rfl rfl (heap_alloc_new _ _) (by rw [HCL.out]; rfl) (by rw [HCL.out]; exact size_late) HCO.out ?_; intro w1 hg1 hk1 hs1; obtain ⟨m0, m1, e2, ea, ef, eb0, eb1, ek⟩ := HALL.out w1 hk1.out hg1.out; clear ek; have M0 := Lib.hid m0; have M1 := Lib.hid m1; clear m0 m1; go_frame) | fail)
            go_region
            go_wp2
            go_roundw
            case rel =>
              have FIN : ∀ s', Value.string s' = sv (x.2.take c ++ old.drop c) → RAt r q (.slice (some ⟨g, 0, none⟩) n cap) wv n (Dk.settleTo S ps (Dk.keptAt keep c) (j + 1)) ps dead life ((w1.setCell ⟨g, at', none⟩ (.string s')).drew) ∧ Kept w.heap.size [g] w ((w1.setCell ⟨g, at', none⟩ (.string s')).drew) := by
                intro s' hs'
                obtain ⟨hp, hkp⟩ := M0.out.put at' _ FTL.out
                rw [FL.out HKJ.out.symm (HT1.out (by simp)), ← hs'] at hp
                rw [← hs'] at hkp
                exact ⟨hp.keep rfl (fun _ _ => rfl) (fun _ _ => rfl), (M1.out.trans (hkp.mono M1.out.size (fun _ _ h => h))).drew⟩
              have TL : Dk.tornAt keep c (j + 1) = 0 := Dk.tornAt_lost HKJ.out.symm
              first | exact ⟨j + 1, false, by omega, by go_num, rfl, fun h => by simp at h, fun _ => TL, FIN _ FTX.out⟩ | exact ⟨j + 1, false, by omega, by go_num, rfl, fun h => by simp at h, fun _ => TL, FIN _ (FTX0.out h1)⟩ | exact ⟨j + 1, false, by omega, by go_num, rfl, fun h => by simp at h, fun _ => TL, FIN _ (FTX1.out h1)⟩
            case measure => simp [intOf]; omega
          | false =>
            go_wp2_with (first | (refine wpList_load_mid rfl 91 _ rfl g' (j * 2) rfl cs _ HRG.out Try.underlying91 rfl (by rw [HCL.out]; exact size_late) ?_; go_frame) | (refine wpList_alloc rfl 91 rfl late0 HA.out ?_; go_frame) | (refine wpList_store_whole rfl 91 _ _ rfl wr.heap.size cs late0 91 rfl rfl (heap_alloc_new _ _) (by rw [HCL.out]; rfl) (by rw [HCL.out]; exact size_late) HCO.out ?_; intro w1 hg1 hk1 hs1; obtain ⟨m0, m1, e2, ea, ef, eb0, eb1, ek⟩ := HALL.out w1 hk1.out hg1.out; clear ek; have M0 := Lib.hid m0; have M1 := Lib.hid m1; clear m0 m1; go_frame) | fail)
            go_roundw
            case rel =>
              refine ⟨j + 1, false, by omega, by go_num, rfl, fun h => by simp at h, fun _ => Dk.tornAt_lost HKJ.out.symm, ?_, M1.out⟩
              rw [← FN.out HKJ.out.symm (HT0.out (by simp))]; exact M0.out
            case measure => simp [intOf]; omega
      · have hjN : Hid (j = N) := Lib.hid (by omega)
        have f3 := HR.out.free 3
        obtain ⟨hcl, hkc⟩ := HR.out.clear
        have HCL := Lib.hid hcl
        have HKC := Lib.hid hkc
        clear hcl hkc hlate
        go_wp2_with fail
        go_end0
        refine ⟨rfl, ?_, (HK.out.mono (Nat.le_refl _) (fun k _ hk => by simp at hk; simp [hk])).trans (HKC.out.mono HK.out.size (fun k _ hk => by simp at hk; simp [hk]))⟩
        have := HCL.out
        rw [hjN.out, HN.out] at this
        rw [← HN.out] at this ⊢
        exact this
theorem rlose_ok {G : List Nat} (h : RDisk r q G n S ps dead life w) (kv : Value) (kb ko : Nat) (ks : List Nat) (keep : List Bool) (t : Int) (hy : Yes kv kb ko ks keep w) (hks : ∀ k ∈ ks, k < w.heap.size ∧ k ∉ G) :
    Calls Try.prog 26 #[.pointer (some ⟨r, 0, none⟩), kv, .int .i64 t] w fun e w' => e = .returned (.tuple #[]) ∧
      RDisk r q G n (Dk.settleTo S ps (Dk.keptAt keep (Dk.clamp t)) ps.length) [] dead life w' ∧ Kept w.heap.size G w w' := by
  obtain ⟨hv, wv, h, g1, g2, g3, g4, g5⟩ := h
  obtain ⟨g, cap, rfl, _, _⟩ := h.row
  refine (rlose_at h kv kb ko ks keep t hy (fun k hk => ⟨(hks k hk).1, fun e => (hks k hk).2 (e ▸ g2 g rfl), fun e => (hks k hk).2 (e ▸ g1)⟩)).mono ?_
  rintro e w' ⟨rfl, hl, hk⟩
  have hz := hk.size
  refine ⟨rfl, ⟨_, .slice none 0 0, hl, g1, g2, (by intro x hx; cases hx), g4, fun x hx => by have := g5 x hx; omega⟩, hk.mono (Nat.le_refl _) (fun x _ hm => ?_)⟩
  simp only [List.mem_cons, List.not_mem_nil, or_false] at hm
  rcases hm with rfl | rfl
  · exact g2 _ rfl
  · exact g1
end
end Go.Proofs.Ytkpnllaegkdkkaa
