/- recordsOf of any text. -/
import Derived.Test.YtmobjpandmdmdaaGreatDoorJUnp
namespace Go.Proofs.YtmobjpandmdmdaaGreatDoor
open Go.RowKit

set_option maxRecDepth 100000 in
set_option maxHeartbeats 2000000 in
theorem recordsOf_gen (e : Nat) (l : List UInt8) (ps : List (List UInt8)) (he : e ≤ 4611686018427387904) (hch : Chain e 1 l ps) (hlen : l.length ≤ 1000000) (w : World) :
    Calls Tryz.prog 58 #[.string (bs l), .int .i64 e] w fun r w' => ∃ v, r = .returned (.tuple #[v, .int .i64 (secsAll ps)]) ∧ w'.ownsRow w.heap.size 9 1 v ps.length (ps.map strv) ∧ Below w.heap.size w w' := by
  obtain ⟨i0, hi, hz0, hz1, hz2⟩ := info_parts infoString
  obtain ⟨s, hs⟩ : ∃ s, s = bs l := ⟨_, rfl⟩
  have hsz : s.size = l.length := by rw [hs, bs_size]
  have hchl := hch.len
  have hll := length_le_secsAll ps
  rw [← hs]
  have HS := Lib.hid hs
  have HP := Lib.hid hch.few
  have HN := Lib.hid hch
  clear hs hch
  go_enter Tryz.func58, Tryz.ntmps58
  go_wp2_with fail
  go_loopw [6, 7] (fun v av wr => ∃ k : Nat, k ≤ ps.length ∧ av = .int .i64 (64 * secsAll (ps.take k) : Nat) ∧ wr.ownsRow w.heap.size 9 1 v k ((ps.take k).map strv) ∧ Below w.heap.size w wr) (fun _ av _ => s.size + 1 - (intOf av).toNat)
  case atStart => exact ⟨0, by omega, by simp [secsAll], by simpa using World.ownsRow_nil _ _ _ _, Below.refl _ _⟩
  case round =>
    obtain ⟨k, hk, rfl, hown, hB⟩ := hrel
    obtain ⟨b0, cap0, rfl⟩ := own_slice hown
    have hM := secsAll_take (ps := ps) k
    obtain ⟨M, hMe⟩ : ∃ M, M = secsAll (ps.take k) := ⟨_, rfl⟩
    rw [← hMe] at hM
    rw [← hMe]
    obtain ⟨A, hA⟩ : ∃ A, A = 64 * M := ⟨_, rfl⟩
    rw [← hA]
    have hAs : A ≤ s.size := by omega
    obtain ⟨q, hq⟩ : ∃ q, q = s.extract A s.size := ⟨_, rfl⟩
    have hmid : ∀ v : World, (Instr.slice 9 (.string s) (some (.int .i64 (A : Int))) none none).run Tryz.prog v = .ok (.string q) v := run_fromN hAs hq.symm
    have hql : q.data.toList = l.drop (64 * secsAll (ps.take k)) := by rw [hq, extract_from, HS.out, bs_list, hA, hMe]
    have hqb : q = bs (l.drop (64 * secsAll (ps.take k))) := bs_of hql
    have hck := HN.out.at k hk
    have hqs : q.size ≤ 1000000 := by rw [hq, ByteArray.size_extract]; omega
    by_cases hlt : k < ps.length
    · obtain ⟨x, hx⟩ : ∃ x, x = ps.getD k [] := ⟨_, rfl⟩
      have hxm : x.length ≤ 60000 := by
        apply HP.out x; rw [hx, List.getD, List.getElem?_eq_getElem hlt]; exact List.getElem_mem _
      have hrec : IsRec q e (k + 1) x := by
        have := hck.head (by rw [List.length_drop]; omega)
        rw [← hqb, Nat.add_comm 1 k] at this
        rw [hx]
        rw [show (ps.drop k).getD 0 [] = ps.getD k [] by simp [List.getD]] at this
        exact this
      have hsu := secsAll_take_succ hlt
      rw [← hx, ← hMe] at hsu
      have hle := secsAll_take (ps := ps) (k + 1)
      have htk : (ps.take (k + 1)).map strv = (ps.take k).map strv ++ [.string (bs x)] := by
        rw [List.take_succ_eq_append_getElem hlt, List.map_append, hx, List.getD, List.getElem?_eq_getElem hlt]; rfl
      obtain ⟨m, hm⟩ : ∃ m, m = secs x := ⟨_, rfl⟩
      have hll2 := length_le_secsAll ps
      have hm1 : 1 ≤ m := by rw [hm]; exact secs_pos x
      have CU := Lib.hid (fun (v : World) => Unpack_rec q e (k + 1) x he (by omega) hrec v)
      rw [whole_secs x, ← hm] at CU
      have ek : ((k : Int) + 1) = ((k + 1 : Nat) : Int) := by omega
      have EK := Lib.hid ek
      have HSU := Lib.hid hsu
      have HTK := Lib.hid htk
      have HM := Lib.hid hm
      have hsz2 := hB.size
      have hAm : A + 64 * m ≤ 1000000 := by rw [hsu] at hle; rw [← hm] at hle; omega
      have HO := Lib.hid hown
      have HB := Lib.hid hB
      have HAE := Lib.hid hA
      have HME := Lib.hid hMe
      clear hown hB hq hql hqb hck hrec hsu htk hx hm ek hA hMe hM hle
      go_wp2_with (first | (go_at_call 77; rw [EK.out]; refine (CU.out _).mono ?_; rintro r w2 ⟨rfl, hb⟩; have HO2 := Lib.hid (own_below HO.out hb); have HB2 := Lib.hid (HB.out.trans (hb.mono HB.out.size)); clear hb; have hsz5 := HB2.out.size) | (go_at_call 39; refine (errorsIs_nil _ _).mono ?_; rintro r w' ⟨rfl, rfl⟩) | (refine wpList_append_own _ rfl (.tmp 29) (.tmp 31) 23 rfl w.heap.size 9 i0 (.string ⟨#[]⟩) 1 16 Tryz.underlying23 hi hz0 hz1 hz2 rfl (by decide) _ k _ rfl (HO2.out.alloc _) ⟨w2.heap.size, 0, none⟩ 1 1 [.string (bs x)] rfl rfl (news_row (heap_alloc_new _ _)) (by intro u hu; simp only [List.mem_singleton] at hu; rw [hu]; rfl) (by unfold maxLen; omega) (by omega) (by simp; omega) ?_; intro v7 w7 h7 hg7 _; have H7 := Lib.hid h7; have B7 := Lib.hid ((HB2.out.alloc (by omega) _).grown hg7 (by simp; omega) (fun k hk => (HO2.out.lt k hk).1)); clear h7 hg7; go_frame) | fail)
      go_roundw
      case rel =>
        refine ⟨k + 1, by omega, ?_, by rw [HTK.out]; exact H7.out, B7.out⟩
        rw [HSU.out, ← HM.out]; have := HAE.out; congr 1; omega
      case measure => have := HAE.out; simp [intOf]; omega
    · have hkl : k = ps.length := by omega
      have hnr : NotRec q e (k + 1) := by
        rw [hkl, List.drop_length, ← hkl] at hck
        have := hck.none
        rw [← hqb, Nat.add_comm 1 k] at this
        exact this
      have ek : ((k : Int) + 1) = ((k + 1 : Nat) : Int) := by omega
      have EK := Lib.hid ek
      have hMa : M = secsAll ps := by rw [hMe, hkl, List.take_length]
      have CU := Lib.hid (fun (v : World) => Unpack_not q e (k + 1) he (by omega) (by omega) hnr v)
      have q64 : (A : Int) / 64 = (M : Int) := by omega
      have HO := Lib.hid hown
      have HB := Lib.hid hB
      have HMA := Lib.hid hMa
      have HKL := Lib.hid hkl
      clear hown hB hq hql hqb hck hnr hMa hMe hA hkl ek
      go_wp2_with (first | (go_at_call 77; rw [EK.out]; refine (CU.out _).mono ?_; rintro r w2 ⟨g, hg, rfl, hf, hb⟩; have HFA := Lib.hid hf; have HO2 := Lib.hid (own_below HO.out hb); have HB2 := Lib.hid (HB.out.trans (hb.mono HB.out.size)); clear hf hb) | (go_at_call 39; refine (errorsIs_true g 20 0 _ HFA.out).mono ?_; rintro r w' ⟨rfl, rfl⟩) | fail)
      go_ret2
      refine ⟨.slice b0 k cap0, by rw [← HMA.out]; rfl, ?_, HB2.out⟩
      have := HO2.out
      rw [HKL.out, List.take_length] at this
      rw [HKL.out]
      exact this
end Go.Proofs.YtmobjpandmdmdaaGreatDoor
