/- Several texts in one, in the order in which they build: JRecG JFindG. -/
import Derived.Test.YtbljhodnpddpiaaGreatDoorQ16
import Derived.Test.YtbljhodnpddpiaaGreatDoorQ10
/- recordsOf of any text. -/
namespace Go.Proofs.YtbljhodnpddpiaaGreatDoor
open Go.RowKit

set_option maxRecDepth 100000 in
set_option maxHeartbeats 2000000 in
theorem recordsOf_gen (e : Nat) (l : List UInt8) (ps : List (List UInt8)) (he : e ≤ 4611686018427387904) (hch : Chain e 1 l ps) (hlen : l.length ≤ 1000000) (w : World) :
    Calls Tryz.prog 79 #[.string (bs l), .int .i64 e] w fun r w' => ∃ v, r = .returned (.tuple #[v, .int .i64 (secsAll ps)]) ∧ w'.ownsRow w.heap.size 9 1 v ps.length (ps.map strv) ∧ Below w.heap.size w w' := by
  obtain ⟨i0, hi, hz0, hz1, hz2⟩ := info_parts infoString
  obtain ⟨s, hs⟩ : ∃ s, s = bs l := ⟨_, rfl⟩
  have hsz : s.size = l.length := by rw [hs, bs_size]
  have hchl := hch.len
  have hll := length_le_secsAll ps
  rw [← hs]
  have HS := Lib.hid hs
  have HP := Lib.hid hch.few
  have HN := Lib.hid hch
  clear hs hch
  go_enter Tryz.func79, Tryz.ntmps79
  go_wp2_with fail
  go_loopw [6, 7] (fun v av wr => ∃ k : Nat, k ≤ ps.length ∧ av = .int .i64 (64 * secsAll (ps.take k) : Nat) ∧ wr.ownsRow w.heap.size 9 1 v k ((ps.take k).map strv) ∧ Below w.heap.size w wr) (fun _ av _ => s.size + 1 - (intOf av).toNat)
  case atStart => exact ⟨0, by omega, by simp [secsAll], by simpa using World.ownsRow_nil _ _ _ _, Below.refl _ _⟩
  case round =>
    obtain ⟨k, hk, rfl, hown, hB⟩ := hrel
    obtain ⟨b0, cap0, rfl⟩ := own_slice hown
    have hM := secsAll_take (ps := ps) k
    obtain ⟨M, hMe⟩ : ∃ M, M = secsAll (ps.take k) := ⟨_, rfl⟩
    rw [← hMe] at hM
    rw [← hMe]
    obtain ⟨A, hA⟩ : ∃ A, A = 64 * M := ⟨_, rfl⟩
    rw [← hA]
    have hAs : A ≤ s.size := by omega
    obtain ⟨q, hq⟩ : ∃ q, q = s.extract A s.size := ⟨_, rfl⟩
    have hmid : ∀ v : World, (Instr.slice 9 (.string s) (some (.int .i64 (A : Int))) none none).run Tryz.prog v = .ok (.string q) v := run_fromN hAs hq.symm
    have hql : q.data.toList = l.drop (64 * secsAll (ps.take k)) := by rw [hq, extract_from, HS.out, bs_list, hA, hMe]
    have hqb : q = bs (l.drop (64 * secsAll (ps.take k))) := bs_of hql
    have hck := HN.out.at k hk
    have hqs : q.size ≤ 1000000 := by rw [hq, ByteArray.size_extract]; omega
    by_cases hlt : k < ps.length
    · obtain ⟨x, hx⟩ : ∃ x, x = ps.getD k [] := ⟨_, rfl⟩
      have hxm : x.length ≤ 60000 := by
        apply HP.out x; rw [hx, List.getD, List.getElem?_eq_getElem hlt]; exact List.getElem_mem _
      have hrec : IsRec q e (k + 1) x := by
        have := hck.head (by rw [List.length_drop]; omega)
        rw [← hqb, Nat.add_comm 1 k] at this
        rw [hx]
        rw [show (ps.drop k).getD 0 [] = ps.getD k [] by simp [List.getD]] at this
        exact this
      have hsu := secsAll_take_succ hlt
      rw [← hx, ← hMe] at hsu
      have hle := secsAll_take (ps := ps) (k + 1)
      have htk : (ps.take (k + 1)).map strv = (ps.take k).map strv ++ [.string (bs x)] := by
        rw [List.take_succ_eq_append_getElem hlt, List.map_append, hx, List.getD, List.getElem?_eq_getElem hlt]; rfl
      obtain ⟨m, hm⟩ : ∃ m, m = secs x := ⟨_, rfl⟩
      have hll2 := length_le_secsAll ps
      have hm1 : 1 ≤ m := by rw [hm]; exact secs_pos x
      have CU := Lib.hid (fun (v : World) => Unpack_rec q e (k + 1) x he (by omega) hrec v)
      rw [whole_secs x, ← hm] at CU
      have ek : ((k : Int) + 1) = ((k + 1 : Nat) : Int) := by omega
      have EK := Lib.hid ek
      have HSU := Lib.hid hsu
      have HTK := Lib.hid htk
      have HM := Lib.hid hm
      have hsz2 := hB.size
      have hAm : A + 64 * m ≤ 1000000 := by rw [hsu] at hle; rw [← hm] at hle; omega
      have HO := Lib.hid hown
      have HB := Lib.hid hB
      have HAE := Lib.hid hA
      have HME := Lib.hid hMe
      clear hown hB hq hql hqb hck hrec hsu htk hx hm ek hA hMe hM hle
      go_wp2_with (first | (go_at_call 92; rw [EK.out]; refine (CU.out _).mono ?_; rintro r w2 ⟨rfl, hb⟩; have HO2 := Lib.hid (own_below HO.out hb); have HB2 := Lib.hid (HB.out.trans (hb.mono HB.out.size)); clear hb; have hsz5 := HB2.out.size) | (go_at_call 49; refine (errorsIs_nil _ _).mono ?_; rintro r w' ⟨rfl, rfl⟩) | (refine wpList_append_own _ rfl (.tmp 29) (.tmp 31) 31 rfl w.heap.size 9 i0 (.string ⟨#[]⟩) 1 16 Tryz.underlying31 hi hz0 hz1 hz2 rfl (by decide) _ k _ rfl (HO2.out.alloc _) ⟨w2.heap.size, 0, none⟩ 1 1 [.string (bs x)] rfl rfl (news_row (heap_alloc_new _ _)) (by intro u hu; simp only [List.mem_singleton] at hu; rw [hu]; rfl) (by unfold maxLen; omega) (by omega) (by simp; omega) ?_; intro v7 w7 h7 hg7 _; have H7 := Lib.hid h7; have B7 := Lib.hid ((HB2.out.alloc (by omega) _).grown hg7 (by simp; omega) (fun k hk => (HO2.out.lt k hk).1)); clear h7 hg7; go_frame) | fail)
      go_roundw
      case rel =>
        refine ⟨k + 1, by omega, ?_, by rw [HTK.out]; exact H7.out, B7.out⟩
        rw [HSU.out, ← HM.out]; have := HAE.out; congr 1; omega
      case measure => have := HAE.out; simp [intOf]; omega
    · have hkl : k = ps.length := by omega
      have hnr : NotRec q e (k + 1) := by
        rw [hkl, List.drop_length, ← hkl] at hck
        have := hck.none
        rw [← hqb, Nat.add_comm 1 k] at this
        exact this
      have ek : ((k : Int) + 1) = ((k + 1 : Nat) : Int) := by omega
      have EK := Lib.hid ek
      have hMa : M = secsAll ps := by rw [hMe, hkl, List.take_length]
      have CU := Lib.hid (fun (v : World) => Unpack_not q e (k + 1) he (by omega) (by omega) hnr v)
      have q64 : (A : Int) / 64 = (M : Int) := by omega
      have HO := Lib.hid hown
      have HB := Lib.hid hB
      have HMA := Lib.hid hMa
      have HKL := Lib.hid hkl
      clear hown hB hq hql hqb hck hnr hMa hMe hA hkl ek
      go_wp2_with (first | (go_at_call 92; rw [EK.out]; refine (CU.out _).mono ?_; rintro r w2 ⟨g, hg, rfl, hf, hb⟩; have HFA := Lib.hid hf; have HO2 := Lib.hid (own_below HO.out hb); have HB2 := Lib.hid (HB.out.trans (hb.mono HB.out.size)); clear hf hb) | (go_at_call 49; refine (errorsIs_true g 20 0 _ HFA.out).mono ?_; rintro r w' ⟨rfl, rfl⟩) | fail)
      go_ret2
      refine ⟨.slice b0 k cap0, by rw [← HMA.out]; rfl, ?_, HB2.out⟩
      have := HO2.out
      rw [HKL.out, List.take_length] at this
      rw [HKL.out]
      exact this
end Go.Proofs.YtbljhodnpddpiaaGreatDoor

/- find of whatever stands on the sectors. -/
namespace Go.Proofs.YtbljhodnpddpiaaGreatDoor
open Go.RowKit

/-- What stands on a journal's sectors, whatever it is: the active half, its epoch (0: none), its records. -/
structure RightG (S : List (List UInt8)) (from_ m act E : Nat) (recs : List (List UInt8)) : Prop where
  heads : ∃ E0 E1, EpochG (bs (Dk.readAt S [] from_)) E0 ∧ EpochG (bs (Dk.readAt S [] (from_ + m))) E1 ∧ act = (if E0 < E1 then 1 else 0) ∧ E = (if E0 < E1 then E1 else E0)
  chain : Chain E 1 (rd S [] (from_ + act * m + 1) (m - 1)) recs
set_option maxRecDepth 100000 in
set_option maxHeartbeats 2000000 in
theorem find_gen (d p n : Nat) (F : List Nat) (st : St) (from_ m act E : Nat) (recs : List (List UInt8)) (hm : from_ + 2 * m ≤ n) (hm2 : 2 ≤ m) (hn : n ≤ 8192) (hps : st.ps = []) (hR : RightG st.S from_ m act E recs) (he1 : 1 ≤ E) (w : World) (h : Dsk d p n F st true w) :
    Calls Tryz.prog 51 #[rowV d from_ m] w fun e w' => ∃ v, e = .returned (.tuple #[.agg (stV act E (1 + recs.length) (1 + secsAll recs)).toArray, v, .nilIface]) ∧ w'.ownsRow w.heap.size 9 1 v recs.length (recs.map strv) ∧ Dsk d p n F st true w' ∧ Below w.heap.size w w' := by
  obtain ⟨E0, E1, hE0, hE1, hact, hE⟩ := hR.heads
  have hE0m := hE0.most
  have hE1m := hE1.most
  obtain ⟨x0, hx0⟩ : ∃ x, x = bs (Dk.readAt st.S [] from_) := ⟨_, rfl⟩
  obtain ⟨x1, hx1⟩ : ∃ x, x = bs (Dk.readAt st.S [] (from_ + m)) := ⟨_, rfl⟩
  obtain ⟨hw1, hw2, hw3⟩ := h.wide
  have hx0s : x0.size = 64 := by rw [hx0, bs_size]; exact length_readAt hw2 (by simp) (by omega)
  have hx1s : x1.size = 64 := by rw [hx1, bs_size]; exact length_readAt hw2 (by simp) (by omega)
  rw [← hx0] at hE0
  rw [← hx1] at hE1
  have CE0 := Lib.hid (fun v : World => epochOf_gen x0 E0 hx0s hE0 v)
  have CE1 := Lib.hid (fun v : World => epochOf_gen x1 E1 hx1s hE1 v)
  have H := Lib.hid h
  have HFB := Lib.hid h.Flt
  have HPB := Lib.hid h.pow.lt
  have HR := Lib.hid hR
  have HE1 := Lib.hid he1
  have HX0 := Lib.hid hx0
  have HX1 := Lib.hid hx1
  have HPS := Lib.hid hps
  have HACT := Lib.hid hact
  have HE := Lib.hid hE
  have HWD := Lib.hid (And.intro hw1 hw2)
  clear h hR he1 hx0 hx1 hE0 hE1 hw1 hw2 hw3 hact hE hps
  unfold rowV
  go_enter Tryz.func51, Tryz.ntmps51
  go_wp2_with (first | (refine wpList_alloc rfl 113 rfl _ allocPen ?_; go_frame) | (refine wpList_alloc rfl 79 rfl _ allocState ?_; go_frame) | fail)
  obtain ⟨W1, hW1⟩ : ∃ x, x = w.alloc (.cells #[Value.pointer (some ⟨d, 0, none⟩), .int .i64 from_, .int .i64 m] 75) := ⟨_, rfl⟩
  rw [← hW1]
  obtain ⟨W2, hW2⟩ : ∃ x, x = W1.alloc (.cells (stV 0 0 0 0).toArray 79) := ⟨_, rfl⟩
  rw [← hW2]
  obtain ⟨W3, hW3⟩ : ∃ x, x = W2.alloc (.cells #[Value.pointer (some ⟨d, 0, none⟩), .nilIface] 113) := ⟨_, rfl⟩
  rw [← hW3]
  obtain ⟨W4, hW4⟩ : ∃ x, x = W3.alloc (.cells (stV 0 0 0 0).toArray 79) := ⟨_, rfl⟩
  rw [← hW4]
  obtain ⟨b, hb⟩ : ∃ b, b = w.heap.size := ⟨_, rfl⟩
  have z1 : W1.heap.size = b + 1 := by rw [hW1, hb]; simp
  have z2 : W2.heap.size = b + 2 := by rw [hW2]; simp [z1]
  have z3 : W3.heap.size = b + 3 := by rw [hW3]; simp [z2]
  have b1 : Below w.heap.size w W1 := by rw [hW1]; exact (Below.refl _ _).alloc (Nat.le_refl _) _
  have b2 : Below W1.heap.size W1 W2 := by rw [hW2]; exact (Below.refl _ _).alloc (Nat.le_refl _) _
  have b3 : Below W2.heap.size W2 W3 := by rw [hW3]; exact (Below.refl _ _).alloc (Nat.le_refl _) _
  have b4 : Below W3.heap.size W3 W4 := by rw [hW4]; exact (Below.refl _ _).alloc (Nat.le_refl _) _
  have b14 : Below W1.heap.size W1 W4 := b2.trans ((b3.trans (b4.mono (by omega))).mono (by omega))
  have b24 : Below W2.heap.size W2 W4 := b3.trans (b4.mono (by omega))
  have b04 : Below w.heap.size w W4 := b1.trans (b14.mono (by omega))
  have hD4 := H.out.below b04
  have hF4 : Fnd w d p n F st from_ m b 0 0 W4 :=
    ⟨(b14.block b (by omega)).trans (by rw [hW1, hb]; exact heap_alloc_new _ _), (b24.block (b + 1) (by omega)).trans (by rw [hW2, ← z1]; exact heap_alloc_new _ _),
     Pen.new hD4 ((b4.block (b + 2) (by omega)).trans (by rw [hW3, ← z2]; exact heap_alloc_new _ _)) (fun hm => by have := HFB.out _ hm; omega) (by have := HPB.out; omega),
     by rw [hW4, ← z3]; exact heap_alloc_new _ _, b04, fun x hx => by have := HFB.out x hx; omega, by omega, by have := HPB.out; omega⟩
  rw [z1, z2, z3, ← hb]
  have HF4 := Lib.hid hF4
  have HBW := Lib.hid hb
  clear hF4 hD4 b1 b2 b3 b4 b14 b24 b04 z1 z2 z3 hW1 hW2 hW3 hW4 hb
  go_loopw [16] (fun iv wr => ∃ k : Nat, k ≤ 2 ∧ iv = .int .i64 k ∧ Fnd w d p n F st from_ m b (if k = 2 then act else 0) (if k = 0 then 0 else if k = 1 then E0 else E) wr) (fun iv _ => 2 - (intOf iv).toNat)
  case atStart => exact ⟨0, by omega, rfl, HF4.out⟩
  case round =>
    clear HF4
    obtain ⟨k, hk, rfl, hG⟩ := hrel
    have hk3 : k = 0 ∨ k = 1 ∨ k = 2 := by omega
    rcases hk3 with rfl | rfl | rfl
    · as_aux_lemma =>
      rw [if_neg (by omega), if_pos rfl] at hG
      obtain ⟨c0, c1, c2, c3, c4, c5, c6, c7⟩ := hG.cells
      have HG := Lib.hid hG
      clear hG
      by_cases hc : 0 < E0
      · go_wp2_with (first | (go_at_call 57; refine (start_0 d from_ m (by omega) _).mono ?_; rintro e w5 ⟨rfl, hb5⟩; have HG5 := Lib.hid (HG.out.below hb5); clear hb5) | (go_at_call 76; refine (read_one d p (b + 2) n F st from_ (by omega) hn _ HG5.out.pen).mono ?_; rintro e w6 ⟨rfl, h6, k6⟩; rw [HPS.out, ← HX0.out]; have HG6 := Lib.hid (HG5.out.kept h6 k6); obtain ⟨c0, c1, c2, c3, c4, c5, c6, c7⟩ := HG6.out.cells; clear h6 k6) | (go_at_call 77; refine (CE0.out _).mono ?_; rintro e w7 ⟨rfl, hb7⟩; have HG7 := Lib.hid (HG6.out.below hb7); obtain ⟨c0, c1, c2, c3, c4, c5, c6, c7⟩ := HG7.out.cells; have f3 := free_of_list HG7.out.fnd; clear hb7) | fail)
        go_roundw
        case rel =>
          refine ⟨1, by omega, rfl, ?_⟩
          have hset := HG7.out.set 0 E0 (set_state 0 E0 0 0 HG7.out.fnd) (kept_state _ _ _ _ _ _)
          rw [if_neg (by omega), if_neg (by omega), if_pos rfl]
          exact hset
        case measure => simp [intOf]
      · go_wp2_with (first | (go_at_call 57; refine (start_0 d from_ m (by omega) _).mono ?_; rintro e w5 ⟨rfl, hb5⟩; have HG5 := Lib.hid (HG.out.below hb5); clear hb5) | (go_at_call 76; refine (read_one d p (b + 2) n F st from_ (by omega) hn _ HG5.out.pen).mono ?_; rintro e w6 ⟨rfl, h6, k6⟩; rw [HPS.out, ← HX0.out]; have HG6 := Lib.hid (HG5.out.kept h6 k6); obtain ⟨c0, c1, c2, c3, c4, c5, c6, c7⟩ := HG6.out.cells; clear h6 k6) | (go_at_call 77; refine (CE0.out _).mono ?_; rintro e w7 ⟨rfl, hb7⟩; have HG7 := Lib.hid (HG6.out.below hb7); obtain ⟨c0, c1, c2, c3, c4, c5, c6, c7⟩ := HG7.out.cells; have f3 := free_of_list HG7.out.fnd; clear hb7) | fail)
        go_roundw
        case rel =>
          refine ⟨1, by omega, rfl, ?_⟩
          have hset := HG7.out
          rw [if_neg (by omega), if_neg (by omega), if_pos rfl, show E0 = 0 by omega]
          exact hset
        case measure => simp [intOf]
    · as_aux_lemma =>
      rw [if_neg (by omega), if_neg (by omega), if_pos rfl] at hG
      obtain ⟨s1, hs1⟩ : ∃ s, s = from_ + m := ⟨_, rfl⟩
      have hs1n : s1 < n := by omega
      rw [← hs1] at HX1
      have CS1 := Lib.hid (fun v : World => (show Calls Tryz.prog 57 #[rowV d from_ m, .int .i64 1] v (fun e w' => e = .returned (.int .i64 s1) ∧ Below v.heap.size v w') by rw [hs1]; exact start_1 d from_ m (by omega) v))
      obtain ⟨c0, c1, c2, c3, c4, c5, c6, c7⟩ := hG.cells
      have HG := Lib.hid hG
      clear hG hs1
      by_cases hc : E0 < E1
      · go_wp2_with (first | (go_at_call 57; refine (CS1.out _).mono ?_; rintro e w5 ⟨rfl, hb5⟩; have HG5 := Lib.hid (HG.out.below hb5); clear hb5) | (go_at_call 76; refine (read_one d p (b + 2) n F st s1 hs1n hn _ HG5.out.pen).mono ?_; rintro e w6 ⟨rfl, h6, k6⟩; rw [HPS.out, ← HX1.out]; have HG6 := Lib.hid (HG5.out.kept h6 k6); obtain ⟨c0, c1, c2, c3, c4, c5, c6, c7⟩ := HG6.out.cells; clear h6 k6) | (go_at_call 77; refine (CE1.out _).mono ?_; rintro e w7 ⟨rfl, hb7⟩; have HG7 := Lib.hid (HG6.out.below hb7); obtain ⟨c0, c1, c2, c3, c4, c5, c6, c7⟩ := HG7.out.cells; have f3 := free_of_list HG7.out.fnd; clear hb7) | fail)
        go_roundw
        case rel =>
          refine ⟨2, by omega, rfl, ?_⟩
          have hset := HG7.out.set 1 E1 (set_state 1 E1 0 0 HG7.out.fnd) (kept_state _ _ _ _ _ _)
          rw [if_pos rfl, if_neg (by omega), if_neg (by omega), HACT.out, HE.out, if_pos hc, if_pos hc]
          exact hset
        case measure => simp [intOf]
      · go_wp2_with (first | (go_at_call 57; refine (CS1.out _).mono ?_; rintro e w5 ⟨rfl, hb5⟩; have HG5 := Lib.hid (HG.out.below hb5); clear hb5) | (go_at_call 76; refine (read_one d p (b + 2) n F st s1 hs1n hn _ HG5.out.pen).mono ?_; rintro e w6 ⟨rfl, h6, k6⟩; rw [HPS.out, ← HX1.out]; have HG6 := Lib.hid (HG5.out.kept h6 k6); obtain ⟨c0, c1, c2, c3, c4, c5, c6, c7⟩ := HG6.out.cells; clear h6 k6) | (go_at_call 77; refine (CE1.out _).mono ?_; rintro e w7 ⟨rfl, hb7⟩; have HG7 := Lib.hid (HG6.out.below hb7); obtain ⟨c0, c1, c2, c3, c4, c5, c6, c7⟩ := HG7.out.cells; have f3 := free_of_list HG7.out.fnd; clear hb7) | fail)
        go_roundw
        case rel =>
          refine ⟨2, by omega, rfl, ?_⟩
          have hset := HG7.out
          rw [if_pos rfl, if_neg (by omega), if_neg (by omega), HACT.out, HE.out, if_neg hc, if_neg hc]
          exact hset
        case measure => simp [intOf]
    · as_aux_lemma =>
      rw [if_pos rfl, if_neg (by omega), if_neg (by omega)] at hG
      obtain ⟨c0, c1, c2, c3, c4, c5, c6, c7⟩ := hG.cells
      have HG := Lib.hid hG
      have hE1' : 1 ≤ E := HE1.out
      have hact1 : act ≤ 1 := by rw [HACT.out]; split <;> omega
      have ham : act * m ≤ m := by have : act = 0 ∨ act = 1 := by omega
                                   rcases this with h0 | h0 <;> rw [h0] <;> omega
      obtain ⟨sA, hsA⟩ : ∃ s, s = from_ + act * m := ⟨_, rfl⟩
      obtain ⟨s2, hs2⟩ : ∃ s, s = sA + 1 := ⟨_, rfl⟩
      obtain ⟨m1, hm1⟩ : ∃ s, s = m - 1 := ⟨_, rfl⟩
      have hsb : s2 + m1 ≤ n := by omega
      have hsA2 : sA ≤ 8192 := by omega
      obtain ⟨TX, htext⟩ : ∃ X, rd st.S [] (from_ + act * m + 1) (m - 1) = X := ⟨_, rfl⟩
      have HCH : Hid (Chain E 1 TX recs) := Lib.hid (by rw [← htext]; exact HR.out.chain)
      rw [← hsA, ← hs2, ← hm1] at htext
      have CSA := Lib.hid (fun v : World => (show Calls Tryz.prog 57 #[.agg #[.pointer (some ⟨d, 0, none⟩), .int .i64 from_, .int .i64 m], .int .i64 act] v (fun e w' => e = .returned (.int .i64 sA) ∧ Below v.heap.size v w') from start_any d from_ m act sA hact1 hsA (by omega) v))
      obtain ⟨T, hT⟩ : ∃ T, T = bs TX := ⟨_, rfl⟩
      have CRA := Lib.hid (fun (v : World) (hv : Pen d p (b + 2) n F st true v) => read_any d p (b + 2) n F st s2 m1 hsb hn v hv)
      rw [HPS.out, htext, ← hT] at CRA
      have EA1 := Lib.hid (show IntKind.i64.wrap ((sA : Int) + 1) = (s2 : Int) by rw [IntWalk.i64_in _ (by omega)]; omega)
      have EM1 := Lib.hid (show IntKind.i64.wrap ((m : Int) - 1) = (m1 : Int) by rw [IntWalk.i64_in _ (by omega)]; omega)
      have HT := Lib.hid hT
      have HTL := Lib.hid (show TX.length ≤ 1000000 by
        have h1 := congrArg List.length htext
        rw [length_rd HWD.out.2 (by simp) _ _ (by rw [HWD.out.1]; exact hsb)] at h1
        omega)
      have HGD := Lib.hid (HG.out.below (Below.refl _ _).drew)
      have S0 : (wr.drew.cell? ⟨b, 0, none⟩ = some (.pointer (some ⟨d, 0, none⟩)) ∧ wr.drew.cell? ⟨b, 1, none⟩ = some (.int .i64 from_) ∧ wr.drew.cell? ⟨b, 2, none⟩ = some (.int .i64 m)) ∧ wr.drew.cell? ⟨b + 3, 0, none⟩ = some (.int .i64 act) := ⟨⟨c0, c1, c2⟩, c4⟩
      clear hG htext hsA hs2 hm1 hT
      go_wp2_with fail
      go_region_held_law (fun v => (v.cell? ⟨b, 0, none⟩ = some (.pointer (some ⟨d, 0, none⟩)) ∧ v.cell? ⟨b, 1, none⟩ = some (.int .i64 from_) ∧ v.cell? ⟨b, 2, none⟩ = some (.int .i64 m)) ∧ v.cell? ⟨b + 3, 0, none⟩ = some (.int .i64 act)) (first | exact S0 | exact S5 | exact S6) (first | (go_simp; go_at_call 57; (with_reducible refine (CSA.out _).mono ?_); rintro e w5 ⟨rfl, hb5⟩; have HG5 := Lib.hid (HGD.out.below hb5); have S5 := (show (w5.cell? ⟨b, 0, none⟩ = some (.pointer (some ⟨d, 0, none⟩)) ∧ w5.cell? ⟨b, 1, none⟩ = some (.int .i64 from_) ∧ w5.cell? ⟨b, 2, none⟩ = some (.int .i64 m)) ∧ w5.cell? ⟨b + 3, 0, none⟩ = some (.int .i64 act) from ⟨⟨HG5.out.cells.1, HG5.out.cells.2.1, HG5.out.cells.2.2.1⟩, HG5.out.cells.2.2.2.2.1⟩); clear hb5) | (go_simp; go_at_call 76; rw [EA1.out, EM1.out]; (with_reducible refine (CRA.out _ HG5.out.pen).mono ?_); rintro e w6 ⟨rfl, h6, k6⟩; have HG6 := Lib.hid (HG5.out.kept h6 k6); have S6 := (show (w6.cell? ⟨b, 0, none⟩ = some (.pointer (some ⟨d, 0, none⟩)) ∧ w6.cell? ⟨b, 1, none⟩ = some (.int .i64 from_) ∧ w6.cell? ⟨b, 2, none⟩ = some (.int .i64 m)) ∧ w6.cell? ⟨b + 3, 0, none⟩ = some (.int .i64 act) from ⟨⟨HG6.out.cells.1, HG6.out.cells.2.1, HG6.out.cells.2.2.1⟩, HG6.out.cells.2.2.2.2.1⟩); clear h6 k6) | fail)
      all_goals
        obtain ⟨c0, c1, c2, c3, c4, c5, c6, c7⟩ := HG6.out.cells
        have f3 := free_of_list HG6.out.fnd
        have CP := Lib.hid (HG6.out.pen.dsk.pending 0 (by rw [HPS.out]; rfl))
        have CR := Lib.hid (recordsOf_gen E TX recs (by rw [HE.out]; split <;> omega) HCH.out HTL.out w6)
        rw [← HT.out] at CR
        have hll := length_le_secsAll recs
        have hsl : secsAll recs ≤ 1000000 := by have := HTL.out; have := HCH.out.len; omega
        clear S0 S5 S6
        go_wp2_with (first | (go_at_call 11; refine CP.out.mono ?_; rintro e w7 ⟨rfl, rfl⟩) | fail)
        refine CR.out.mono ?_
        rintro e w8 ⟨v, rfl, hown, hb8⟩
        obtain ⟨vb, vc, rfl⟩ := own_slice hown
        have HG8 := Lib.hid (HG6.out.below hb8)
        obtain ⟨c0, c1, c2, c3, c4, c5, c6, c7⟩ := HG8.out.cells
        have f3 := free_of_list HG8.out.fnd
        have r0 : w8.cell? ⟨b + 1, 0, none⟩ = some (.int .i64 0) := by rw [cell_of_list HG8.out.res]; rfl
        have r1 : w8.cell? ⟨b + 1, 1, none⟩ = some (.int .i64 0) := by rw [cell_of_list HG8.out.res]; rfl
        have r2 : w8.cell? ⟨b + 1, 2, none⟩ = some (.int .i64 0) := by rw [cell_of_list HG8.out.res]; rfl
        have r3 : w8.cell? ⟨b + 1, 3, none⟩ = some (.int .i64 0) := by rw [cell_of_list HG8.out.res]; rfl
        have g3 := free_of_list HG8.out.res
        have HO := Lib.hid hown
        have HB8 := Lib.hid hb8
        clear hown hb8
        go_wp2_with fail
        rw [show (1 : Int) + (recs.length : Int) = ((1 + recs.length : Nat) : Int) from by omega, show (1 : Int) + (secsAll recs : Int) = ((1 + secsAll recs : Nat) : Int) from by omega]
        obtain ⟨w9, hw9⟩ : ∃ x, x = (w8.setCell ⟨b + 3, 2, none⟩ (.int .i64 ((1 + recs.length : Nat) : Int))).setCell ⟨b + 3, 3, none⟩ (.int .i64 ((1 + secsAll recs : Nat) : Int)) := ⟨_, rfl⟩
        have hk9 : Kept w8.heap.size [b + 3] w8 w9 := by rw [hw9]; exact ((Kept.refl _ _ _).setCell (p := ⟨b + 3, 2, none⟩) (by simp) _).setCell (p := ⟨b + 3, 3, none⟩) (by simp) _
        rw [← hw9]
        have hres9 := (hk9.block (b + 1) (lt_of_heap HG8.out.res) (by simp)).trans HG8.out.res
        have hset := set_state act E (1 + recs.length) (1 + secsAll recs) hres9
        have hkx := kept_state w9 (b + 1) (.int .i64 act) (.int .i64 E) (.int .i64 ((1 + recs.length : Nat) : Int)) (.int .i64 ((1 + secsAll recs : Nat) : Int))
        obtain ⟨wx, hwx⟩ : ∃ x, x = (((w9.setCell ⟨b + 1, 0, none⟩ (.int .i64 act)).setCell ⟨b + 1, 1, none⟩ (.int .i64 E)).setCell ⟨b + 1, 2, none⟩ (.int .i64 ((1 + recs.length : Nat) : Int))).setCell ⟨b + 1, 3, none⟩ (.int .i64 ((1 + secsAll recs : Nat) : Int)) := ⟨_, rfl⟩
        rw [← hwx] at hset hkx ⊢
        have hk : Kept w8.heap.size [b + 1, b + 3] w8 wx := kept_two hk9 hkx hk9.size (fun x hx => by simp at hx; simp [hx]) (fun x hx => by simp at hx; simp [hx])
        have hlow := HG8.out.low
        have hold : Below w.heap.size w wx := HG8.out.old.trans ((hk.mono HG8.out.old.size (fun _ _ hm => hm)).below (fun k hk => by simp at hk; omega))
        have hb6 : b + 3 < w6.heap.size := lt_of_heap HG6.out.fnd
        refine bodyPost_ret (results_mid3 Tryz.results51 _ _ (b + 1) 0 _ _ rfl (range_of_list hset) Tryz.underlying79 rfl (by kernel_rfl)) rfl ⟨.slice vb recs.length vc, rfl, ?_, ?_, hold⟩
        · refine own_keep (own_low HO.out HG6.out.old.size) (fun g hg => hk.block g (HO.out.lt g hg).2 (fun hm => ?_))
          have := (HO.out.lt g hg).1
          simp at hm
          omega
        · exact HG8.out.pen.dsk.keep hk (by have := HG8.out.pb; simp; omega) (fun x hx hm => by have := HG8.out.fF x hx; simp at hm; omega)
set_option maxRecDepth 100000 in
set_option maxHeartbeats 2000000 in
theorem find_blank (d p n : Nat) (F : List Nat) (st : St) (from_ m act E : Nat) (recs : List (List UInt8)) (hm : from_ + 2 * m ≤ n) (hm2 : 2 ≤ m) (hn : n ≤ 8192) (hps : st.ps = []) (hR : RightG st.S from_ m act E recs) (he0 : E = 0) (w : World) (h : Dsk d p n F st true w) :
    Calls Tryz.prog 51 #[rowV d from_ m] w (Refused 15 0 (fun v => .tuple #[.agg (stV 0 0 0 0).toArray, .slice none 0 0, v]) w) := by
  obtain ⟨E0, E1, hE0, hE1, hact, hE⟩ := hR.heads
  have hE0m := hE0.most
  have hE1m := hE1.most
  obtain ⟨x0, hx0⟩ : ∃ x, x = bs (Dk.readAt st.S [] from_) := ⟨_, rfl⟩
  obtain ⟨x1, hx1⟩ : ∃ x, x = bs (Dk.readAt st.S [] (from_ + m)) := ⟨_, rfl⟩
  obtain ⟨hw1, hw2, hw3⟩ := h.wide
  have hx0s : x0.size = 64 := by rw [hx0, bs_size]; exact length_readAt hw2 (by simp) (by omega)
  have hx1s : x1.size = 64 := by rw [hx1, bs_size]; exact length_readAt hw2 (by simp) (by omega)
  rw [← hx0] at hE0
  rw [← hx1] at hE1
  have CE0 := Lib.hid (fun v : World => epochOf_gen x0 E0 hx0s hE0 v)
  have CE1 := Lib.hid (fun v : World => epochOf_gen x1 E1 hx1s hE1 v)
  have H := Lib.hid h
  have HFB := Lib.hid h.Flt
  have HPB := Lib.hid h.pow.lt
  have HR := Lib.hid hR
  have HE0 := Lib.hid he0
  have HX0 := Lib.hid hx0
  have HX1 := Lib.hid hx1
  have HPS := Lib.hid hps
  have HACT := Lib.hid hact
  have HE := Lib.hid hE
  have HWD := Lib.hid (And.intro hw1 hw2)
  clear h hR he0 hx0 hx1 hE0 hE1 hw1 hw2 hw3 hact hE hps
  unfold rowV
  go_enter Tryz.func51, Tryz.ntmps51
  go_wp2_with (first | (refine wpList_alloc rfl 113 rfl _ allocPen ?_; go_frame) | (refine wpList_alloc rfl 79 rfl _ allocState ?_; go_frame) | fail)
  obtain ⟨W1, hW1⟩ : ∃ x, x = w.alloc (.cells #[Value.pointer (some ⟨d, 0, none⟩), .int .i64 from_, .int .i64 m] 75) := ⟨_, rfl⟩
  rw [← hW1]
  obtain ⟨W2, hW2⟩ : ∃ x, x = W1.alloc (.cells (stV 0 0 0 0).toArray 79) := ⟨_, rfl⟩
  rw [← hW2]
  obtain ⟨W3, hW3⟩ : ∃ x, x = W2.alloc (.cells #[Value.pointer (some ⟨d, 0, none⟩), .nilIface] 113) := ⟨_, rfl⟩
  rw [← hW3]
  obtain ⟨W4, hW4⟩ : ∃ x, x = W3.alloc (.cells (stV 0 0 0 0).toArray 79) := ⟨_, rfl⟩
  rw [← hW4]
  obtain ⟨b, hb⟩ : ∃ b, b = w.heap.size := ⟨_, rfl⟩
  have z1 : W1.heap.size = b + 1 := by rw [hW1, hb]; simp
  have z2 : W2.heap.size = b + 2 := by rw [hW2]; simp [z1]
  have z3 : W3.heap.size = b + 3 := by rw [hW3]; simp [z2]
  have b1 : Below w.heap.size w W1 := by rw [hW1]; exact (Below.refl _ _).alloc (Nat.le_refl _) _
  have b2 : Below W1.heap.size W1 W2 := by rw [hW2]; exact (Below.refl _ _).alloc (Nat.le_refl _) _
  have b3 : Below W2.heap.size W2 W3 := by rw [hW3]; exact (Below.refl _ _).alloc (Nat.le_refl _) _
  have b4 : Below W3.heap.size W3 W4 := by rw [hW4]; exact (Below.refl _ _).alloc (Nat.le_refl _) _
  have b14 : Below W1.heap.size W1 W4 := b2.trans ((b3.trans (b4.mono (by omega))).mono (by omega))
  have b24 : Below W2.heap.size W2 W4 := b3.trans (b4.mono (by omega))
  have b04 : Below w.heap.size w W4 := b1.trans (b14.mono (by omega))
  have hD4 := H.out.below b04
  have hF4 : Fnd w d p n F st from_ m b 0 0 W4 :=
    ⟨(b14.block b (by omega)).trans (by rw [hW1, hb]; exact heap_alloc_new _ _), (b24.block (b + 1) (by omega)).trans (by rw [hW2, ← z1]; exact heap_alloc_new _ _),
     Pen.new hD4 ((b4.block (b + 2) (by omega)).trans (by rw [hW3, ← z2]; exact heap_alloc_new _ _)) (fun hm => by have := HFB.out _ hm; omega) (by have := HPB.out; omega),
     by rw [hW4, ← z3]; exact heap_alloc_new _ _, b04, fun x hx => by have := HFB.out x hx; omega, by omega, by have := HPB.out; omega⟩
  rw [z1, z2, z3, ← hb]
  have HF4 := Lib.hid hF4
  have HBW := Lib.hid hb
  clear hF4 hD4 b1 b2 b3 b4 b14 b24 b04 z1 z2 z3 hW1 hW2 hW3 hW4 hb
  go_loopw [16] (fun iv wr => ∃ k : Nat, k ≤ 2 ∧ iv = .int .i64 k ∧ Fnd w d p n F st from_ m b (if k = 2 then act else 0) (if k = 0 then 0 else if k = 1 then E0 else E) wr) (fun iv _ => 2 - (intOf iv).toNat)
  case atStart => exact ⟨0, by omega, rfl, HF4.out⟩
  case round =>
    clear HF4
    obtain ⟨k, hk, rfl, hG⟩ := hrel
    have hk3 : k = 0 ∨ k = 1 ∨ k = 2 := by omega
    rcases hk3 with rfl | rfl | rfl
    · as_aux_lemma =>
      rw [if_neg (by omega), if_pos rfl] at hG
      obtain ⟨c0, c1, c2, c3, c4, c5, c6, c7⟩ := hG.cells
      have HG := Lib.hid hG
      clear hG
      by_cases hc : 0 < E0
      · go_wp2_with (first | (go_at_call 57; refine (start_0 d from_ m (by omega) _).mono ?_; rintro e w5 ⟨rfl, hb5⟩; have HG5 := Lib.hid (HG.out.below hb5); clear hb5) | (go_at_call 76; refine (read_one d p (b + 2) n F st from_ (by omega) hn _ HG5.out.pen).mono ?_; rintro e w6 ⟨rfl, h6, k6⟩; rw [HPS.out, ← HX0.out]; have HG6 := Lib.hid (HG5.out.kept h6 k6); obtain ⟨c0, c1, c2, c3, c4, c5, c6, c7⟩ := HG6.out.cells; clear h6 k6) | (go_at_call 77; refine (CE0.out _).mono ?_; rintro e w7 ⟨rfl, hb7⟩; have HG7 := Lib.hid (HG6.out.below hb7); obtain ⟨c0, c1, c2, c3, c4, c5, c6, c7⟩ := HG7.out.cells; have f3 := free_of_list HG7.out.fnd; clear hb7) | fail)
        go_roundw
        case rel =>
          refine ⟨1, by omega, rfl, ?_⟩
          have hset := HG7.out.set 0 E0 (set_state 0 E0 0 0 HG7.out.fnd) (kept_state _ _ _ _ _ _)
          rw [if_neg (by omega), if_neg (by omega), if_pos rfl]
          exact hset
        case measure => simp [intOf]
      · go_wp2_with (first | (go_at_call 57; refine (start_0 d from_ m (by omega) _).mono ?_; rintro e w5 ⟨rfl, hb5⟩; have HG5 := Lib.hid (HG.out.below hb5); clear hb5) | (go_at_call 76; refine (read_one d p (b + 2) n F st from_ (by omega) hn _ HG5.out.pen).mono ?_; rintro e w6 ⟨rfl, h6, k6⟩; rw [HPS.out, ← HX0.out]; have HG6 := Lib.hid (HG5.out.kept h6 k6); obtain ⟨c0, c1, c2, c3, c4, c5, c6, c7⟩ := HG6.out.cells; clear h6 k6) | (go_at_call 77; refine (CE0.out _).mono ?_; rintro e w7 ⟨rfl, hb7⟩; have HG7 := Lib.hid (HG6.out.below hb7); obtain ⟨c0, c1, c2, c3, c4, c5, c6, c7⟩ := HG7.out.cells; have f3 := free_of_list HG7.out.fnd; clear hb7) | fail)
        go_roundw
        case rel =>
          refine ⟨1, by omega, rfl, ?_⟩
          have hset := HG7.out
          rw [if_neg (by omega), if_neg (by omega), if_pos rfl, show E0 = 0 by omega]
          exact hset
        case measure => simp [intOf]
    · as_aux_lemma =>
      rw [if_neg (by omega), if_neg (by omega), if_pos rfl] at hG
      obtain ⟨s1, hs1⟩ : ∃ s, s = from_ + m := ⟨_, rfl⟩
      have hs1n : s1 < n := by omega
      rw [← hs1] at HX1
      have CS1 := Lib.hid (fun v : World => (show Calls Tryz.prog 57 #[rowV d from_ m, .int .i64 1] v (fun e w' => e = .returned (.int .i64 s1) ∧ Below v.heap.size v w') by rw [hs1]; exact start_1 d from_ m (by omega) v))
      obtain ⟨c0, c1, c2, c3, c4, c5, c6, c7⟩ := hG.cells
      have HG := Lib.hid hG
      clear hG hs1
      by_cases hc : E0 < E1
      · go_wp2_with (first | (go_at_call 57; refine (CS1.out _).mono ?_; rintro e w5 ⟨rfl, hb5⟩; have HG5 := Lib.hid (HG.out.below hb5); clear hb5) | (go_at_call 76; refine (read_one d p (b + 2) n F st s1 hs1n hn _ HG5.out.pen).mono ?_; rintro e w6 ⟨rfl, h6, k6⟩; rw [HPS.out, ← HX1.out]; have HG6 := Lib.hid (HG5.out.kept h6 k6); obtain ⟨c0, c1, c2, c3, c4, c5, c6, c7⟩ := HG6.out.cells; clear h6 k6) | (go_at_call 77; refine (CE1.out _).mono ?_; rintro e w7 ⟨rfl, hb7⟩; have HG7 := Lib.hid (HG6.out.below hb7); obtain ⟨c0, c1, c2, c3, c4, c5, c6, c7⟩ := HG7.out.cells; have f3 := free_of_list HG7.out.fnd; clear hb7) | fail)
        go_roundw
        case rel =>
          refine ⟨2, by omega, rfl, ?_⟩
          have hset := HG7.out.set 1 E1 (set_state 1 E1 0 0 HG7.out.fnd) (kept_state _ _ _ _ _ _)
          rw [if_pos rfl, if_neg (by omega), if_neg (by omega), HACT.out, HE.out, if_pos hc, if_pos hc]
          exact hset
        case measure => simp [intOf]
      · go_wp2_with (first | (go_at_call 57; refine (CS1.out _).mono ?_; rintro e w5 ⟨rfl, hb5⟩; have HG5 := Lib.hid (HG.out.below hb5); clear hb5) | (go_at_call 76; refine (read_one d p (b + 2) n F st s1 hs1n hn _ HG5.out.pen).mono ?_; rintro e w6 ⟨rfl, h6, k6⟩; rw [HPS.out, ← HX1.out]; have HG6 := Lib.hid (HG5.out.kept h6 k6); obtain ⟨c0, c1, c2, c3, c4, c5, c6, c7⟩ := HG6.out.cells; clear h6 k6) | (go_at_call 77; refine (CE1.out _).mono ?_; rintro e w7 ⟨rfl, hb7⟩; have HG7 := Lib.hid (HG6.out.below hb7); obtain ⟨c0, c1, c2, c3, c4, c5, c6, c7⟩ := HG7.out.cells; have f3 := free_of_list HG7.out.fnd; clear hb7) | fail)
        go_roundw
        case rel =>
          refine ⟨2, by omega, rfl, ?_⟩
          have hset := HG7.out
          rw [if_pos rfl, if_neg (by omega), if_neg (by omega), HACT.out, HE.out, if_neg hc, if_neg hc]
          exact hset
        case measure => simp [intOf]
    · as_aux_lemma =>
      rw [if_pos rfl, if_neg (by omega), if_neg (by omega), HE0.out] at hG
      obtain ⟨c0, c1, c2, c3, c4, c5, c6, c7⟩ := hG.cells
      have HG := Lib.hid hG
      have hbw := lt_of_heap hG.res
      clear hG
      go_wp2_with (go_at_call 46; refine (Jfault_is 15 _).mono ?_; rintro e w5 ⟨g, hg, rfl, hf, hb5⟩; have HG5 := Lib.hid (HG.out.below hb5); have HFA := Lib.hid hf; have HB5 := Lib.hid hb5; have r0 : w5.cell? ⟨b + 1, 0, none⟩ = some (.int .i64 0) := (by rw [cell_of_list HG5.out.res]; rfl); have r1 : w5.cell? ⟨b + 1, 1, none⟩ = some (.int .i64 0) := (by rw [cell_of_list HG5.out.res]; rfl); have r2 : w5.cell? ⟨b + 1, 2, none⟩ = some (.int .i64 0) := (by rw [cell_of_list HG5.out.res]; rfl); have r3 : w5.cell? ⟨b + 1, 3, none⟩ = some (.int .i64 0) := (by rw [cell_of_list HG5.out.res]; rfl); have g3 := free_of_list HG5.out.res; clear hf hb5)
      have hset := set_state 0 0 0 0 HG5.out.res
      have hkx := kept_state w5 (b + 1) (.int .i64 0) (.int .i64 0) (.int .i64 0) (.int .i64 0)
      obtain ⟨wx, hwx⟩ : ∃ x, x = (((w5.setCell ⟨b + 1, 0, none⟩ (.int .i64 0)).setCell ⟨b + 1, 1, none⟩ (.int .i64 0)).setCell ⟨b + 1, 2, none⟩ (.int .i64 0)).setCell ⟨b + 1, 3, none⟩ (.int .i64 0) := ⟨_, rfl⟩
      rw [show ((0 : Nat) : Int) = 0 from rfl] at hset
      rw [← hwx] at hset hkx ⊢
      have hlow := HG5.out.low
      have hold : Below w.heap.size w wx := HG5.out.old.trans ((hkx.mono HG5.out.old.size (fun _ _ hm => hm)).below (fun k hk => by simp at hk; omega))
      refine bodyPost_ret (results_mid3 Tryz.results51 _ _ (b + 1) 0 _ _ rfl (range_of_list hset) Tryz.underlying79 rfl (by kernel_rfl)) rfl ?_
      exact ⟨g, Nat.le_trans HG.out.old.size hg, rfl, (hkx.block g (lt_of_heap HFA.out) (by simp; omega)).trans HFA.out, hold⟩
end Go.Proofs.YtbljhodnpddpiaaGreatDoor
