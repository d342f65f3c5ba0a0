/- The walks of epochOf and recordsOf. -/
import Derived.Test.YtmobjpandmdmdaaGreatDoorJLay
namespace Go.Proofs.YtmobjpandmdmdaaGreatDoor
open Go.RowKit

def title : List UInt8 := [106, 111, 117, 114, 110, 97, 108]
theorem title_bs : bs title = ⟨#[106, 111, 117, 114, 110, 97, 108]⟩ := (bs_of (s := ⟨#[106, 111, 117, 114, 110, 97, 108]⟩) rfl).symm
theorem Unpack_short (s : ByteArray) (e n : Int) (hs : s.size < 64) (w : World) :
    Calls Tryz.prog 77 #[.string s, .int .i64 e, .int .i64 n] w (Refused 20 0 (fun v => .tuple #[.string ⟨#[]⟩, .int .i64 0, v]) w) := by
  go_enter Tryz.func77, Tryz.ntmps77
  go_wp2_with (go_at_call 86; refine (fault_is 20 0 _).mono ?_; rintro r w' ⟨g, hg, rfl, hf, hb2⟩; have HF := Lib.hid hf; have HB := Lib.hid hb2; clear hf hb2)
  go_ret3
  exact ⟨g, hg, rfl, HF.out, HB.out⟩
/-- A text with which no record begins. -/
def NoRec (l : List UInt8) : Prop := l.length < 64 ∨ l.getD 0 0 ≠ 1
theorem Unpack_none (s : ByteArray) (e n : Int) (h : NoRec s.data.toList) (w : World) :
    Calls Tryz.prog 77 #[.string s, .int .i64 e, .int .i64 n] w (Refused 20 0 (fun v => .tuple #[.string ⟨#[]⟩, .int .i64 0, v]) w) := by
  by_cases hs : s.size < 64
  · exact Unpack_short s e n hs w
  · rcases h with h | h
    · rw [size_toList] at h; omega
    · exact Unpack_mark s e n (by omega) (by rw [strAt_eq]; exact h) w
theorem num_lt7 (l : List UInt8) (j : Nat) (h : j ≤ 7) : Fr.num (l.take j) < 72057594037927936 := by
  have := Fr.num_lt (l.take j)
  have h2 : (l.take j).length ≤ 7 := by rw [List.length_take]; omega
  have h3 : 256 ^ (l.take j).length ≤ 256 ^ 7 := Nat.pow_le_pow_right (by decide) h2
  have h4 : (256 : Nat) ^ 7 = 72057594037927936 := by decide
  omega
theorem num_lt8 (l : List UInt8) (j : Nat) (h : j ≤ 8) : Fr.num (l.take j) < 18446744073709551616 := by
  have := Fr.num_lt (l.take j)
  have h2 : (l.take j).length ≤ 8 := by rw [List.length_take]; omega
  have h3 : 256 ^ (l.take j).length ≤ 256 ^ 8 := Nat.pow_le_pow_right (by decide) h2
  have h4 : (256 : Nat) ^ 8 = 18446744073709551616 := by decide
  omega
theorem IsRec.epoch {s : ByteArray} {e n : Nat} {p : List UInt8} (h : IsRec s e n p) (he : e < 18446744073709551616) : Fr.num ((s.data.toList.drop 12).take 8) = e := by
  have h1 := h.head
  rw [extract_list] at h1
  have e1 : (s.data.toList.drop 12).take 8 = ((s.data.toList.take 20).drop 4).drop 8 := by
    rw [List.drop_drop, List.drop_take]
  rw [e1, h1, ← Fr.headOf_eq, List.drop_left' (by simp [Fr.length_be])]
  exact Fr.num_be_lt he
/-- What epochOf answers. -/
def EpochIs (s : ByteArray) (R : Nat) : Prop := (NoRec s.data.toList ∧ R = 0) ∨ (IsRec s R 0 title ∧ 1 ≤ R ∧ R ≤ 4611686018427387904)
attribute [local go_sem high] run_index_byte
set_option maxRecDepth 100000 in
set_option maxHeartbeats 2000000 in
theorem epochOf_is (s : ByteArray) (R : Nat) (hs : s.size = 64) (h : EpochIs s R) (w : World) :
    Calls Tryz.prog 55 #[.string s] w fun e w' => e = .returned (.int .i64 R) ∧ Below w.heap.size w w' := by
  have H := Lib.hid h
  have HLD := Lib.hid (show (s.data.toList.drop 12).length = 52 by rw [List.length_drop, size_toList, hs])
  clear h
  go_enter Tryz.func55, Tryz.ntmps55
  go_wp2_with fail
  go_loopw [3, 8] (fun r i wr => ∃ j : Nat, j ≤ 8 ∧ i = .int .i64 j ∧ r = .int .u64 (Fr.num ((s.data.toList.drop 12).take j)) ∧ wr = w) (fun _ i _ => 8 - (intOf i).toNat)
  case atStart => exact ⟨0, by omega, rfl, by rw [List.take_zero, Fr.num_nil]; rfl, rfl⟩
  case round =>
    obtain ⟨j, hj, rfl, rfl, rfl⟩ := hrel
    by_cases hlt : j < 8
    · obtain ⟨N, hN⟩ : ∃ N, N = Fr.num ((s.data.toList.drop 12).take j) := ⟨_, rfl⟩
      rw [← hN]
      go_wp2_with fail
      go_roundw
      case rel => exact ⟨j + 1, by omega, by go_num, (by
        rw [or_shift _ _ (by have := num_lt7 (s.data.toList.drop 12) j (by omega); omega), List.take_succ_eq_append_getElem (by rw [HLD.out]; omega), Fr.num_snoc, List.getElem_drop, hN]; rfl), trivial⟩
      case measure => simp [intOf]; omega
    · obtain rfl : j = 8 := by omega
      have hN8 := num_lt8 (s.data.toList.drop 12) 8 (Nat.le_refl _)
      rcases H.out with ⟨h, rfl⟩ | ⟨h, h1, h2⟩
      · obtain ⟨N, hN⟩ : ∃ N, N = Fr.num ((s.data.toList.drop 12).take 8) := ⟨_, rfl⟩
        rw [← hN] at hN8 ⊢
        have CU := Lib.hid (fun (e : Int) (v : World) => Unpack_none s e 0 h v)
        clear h hN
        by_cases hbig : N ≤ 4611686018427387904
        · go_wp2_with (first | (go_at_call 77; refine (CU.out _ _).mono ?_; rintro r w2 ⟨g, hg, rfl, hf, hb⟩; have HFA := Lib.hid hf; have HB := Lib.hid hb; clear hf hb) | (go_at_call 39; refine (errorsIs_true g 20 0 _ HFA.out).mono ?_; rintro r w' ⟨rfl, rfl⟩) | fail)
          go_ret
          exact ⟨rfl, HB.out⟩
        · go_wp2_with fail
          go_ret
          exact ⟨rfl, Below.refl _ _⟩
      · rw [h.epoch (by omega)] at hN8 ⊢
        have CU := Lib.hid (fun (v : World) => show Calls Tryz.prog 77 #[.string s, .int .i64 R, .int .i64 0] v _ from Unpack_rec s R 0 title h2 (by omega) h v)
        rw [title_bs] at CU
        clear h
        go_wp2_with (first | (go_at_call 77; refine (CU.out _).mono ?_; rintro r w2 ⟨rfl, hb⟩; have HB := Lib.hid hb; clear hb) | (go_at_call 39; refine (errorsIs_nil _ _).mono ?_; rintro r w' ⟨rfl, rfl⟩) | fail)
        go_ret
        exact ⟨rfl, HB.out⟩
/-- The records of an epoch from a number on, one behind the other. -/
def packs (e n : Nat) : List (List UInt8) → List UInt8
  | [] => []
  | p :: ps => Fr.record e n p ++ packs e (n + 1) ps
theorem packs_nil (e n : Nat) : packs e n [] = [] := rfl
theorem packs_cons (e n : Nat) (p : List UInt8) (ps : List (List UInt8)) : packs e n (p :: ps) = Fr.record e n p ++ packs e (n + 1) ps := rfl
theorem packs_append (e n : Nat) (a b : List (List UInt8)) : packs e n (a ++ b) = packs e n a ++ packs e (n + a.length) b := by
  induction a generalizing n with
  | nil => rfl
  | cons p a ih => rw [List.cons_append, packs_cons, packs_cons, ih, List.append_assoc, List.length_cons, Nat.add_assoc, Nat.add_comm 1]
theorem packs_snoc (e n : Nat) (a : List (List UInt8)) (p : List UInt8) : packs e n (a ++ [p]) = packs e n a ++ Fr.record e (n + a.length) p := by
  rw [packs_append, packs_cons, packs_nil, List.append_nil]
/-- How many sectors a payload's record has, and all of some have. -/
def secs (p : List UInt8) : Nat := (p.length + 87) / 64
theorem whole_secs (p : List UInt8) : Fr.whole p.length = 64 * secs p := by unfold Fr.whole secs; omega
def secsAll (ps : List (List UInt8)) : Nat := (ps.map secs).sum
theorem secsAll_nil : secsAll [] = 0 := rfl
theorem secsAll_cons (p : List UInt8) (ps : List (List UInt8)) : secsAll (p :: ps) = secs p + secsAll ps := rfl
theorem secsAll_append (a b : List (List UInt8)) : secsAll (a ++ b) = secsAll a + secsAll b := by simp [secsAll]
theorem secsAll_snoc (a : List (List UInt8)) (p : List UInt8) : secsAll (a ++ [p]) = secsAll a + secs p := by rw [secsAll_append]; simp [secsAll]
theorem length_packs (e n : Nat) (ps : List (List UInt8)) : (packs e n ps).length = 64 * secsAll ps := by
  induction ps generalizing n with
  | nil => rfl
  | cons p ps ih => rw [packs_cons, List.length_append, Fr.length_record, ih, secsAll_cons, whole_secs]; omega
theorem secs_pos (p : List UInt8) : 1 ≤ secs p := by unfold secs; omega
theorem length_le_secsAll (ps : List (List UInt8)) : ps.length ≤ secsAll ps := by
  induction ps with
  | nil => exact Nat.le_refl _
  | cons p ps ih => have := secs_pos p; rw [secsAll_cons, List.length_cons]; omega
theorem take_packs {e n k : Nat} {ps : List (List UInt8)} (h : k < ps.length) : packs e n (ps.take (k + 1)) = packs e n (ps.take k) ++ Fr.record e (n + k) (ps.getD k []) := by
  rw [List.take_succ_eq_append_getElem h, packs_snoc, List.length_take, Nat.min_eq_left (by omega), List.getD, List.getElem?_eq_getElem h]; rfl
theorem split_packs {e n k : Nat} {ps : List (List UInt8)} (h : k < ps.length) : packs e n ps = packs e n (ps.take k) ++ (Fr.record e (n + k) (ps.getD k []) ++ packs e (n + k + 1) (ps.drop (k + 1))) := by
  conv => lhs; rw [← List.take_append_drop k ps, List.drop_eq_getElem_cons h]
  rw [packs_append, packs_cons, List.length_take, Nat.min_eq_left (by omega), List.getD, List.getElem?_eq_getElem h]; rfl
attribute [irreducible] secs secsAll
def strv (l : List UInt8) : Value := .string (bs l)
theorem infoString : (Tryz.prog.info? 9).map (fun i => (i.zero, i.size, i.bytes)) = some (some (.string ⟨#[]⟩), 1, 16) := by kernel_rfl
theorem own_below {w w' : World} {B n size : Nat} {e : TypeId} {v : Value} {xs : List Value} (h : w.ownsRow B e size v n xs) (hb : Below w.heap.size w w') : w'.ownsRow B e size v n xs :=
  own_keep h (fun g hg => hb.block g (h.lt g hg).2)
theorem own_slice {w : World} {B n size : Nat} {e : TypeId} {v : Value} {xs : List Value} (h : w.ownsRow B e size v n xs) : ∃ b cap, v = .slice b n cap := by
  rcases h.2 with ⟨hv, h0⟩ | ⟨g, cap, cur, hv, _⟩
  · exact ⟨none, 0, by rw [hv, h0]⟩
  · exact ⟨_, cap, hv⟩
theorem secsAll_take {ps : List (List UInt8)} (k : Nat) : secsAll (ps.take k) ≤ secsAll ps := by
  conv => rhs; rw [← List.take_append_drop k ps, secsAll_append]
  omega
theorem secsAll_take_succ {ps : List (List UInt8)} {k : Nat} (h : k < ps.length) : secsAll (ps.take (k + 1)) = secsAll (ps.take k) + secs (ps.getD k []) := by
  rw [List.take_succ_eq_append_getElem h, secsAll_snoc, List.getD, List.getElem?_eq_getElem h]; rfl
theorem run_fromN {s q : ByteArray} {i : Nat} (hi : i ≤ s.size) (hq : s.extract i s.size = q) (w : World) : (Instr.slice 9 (.string s) (some (.int .i64 (i : Int))) none none).run Tryz.prog w = .ok (.string q) w := by
  rw [run_rest_string w 9 s .i64 i Tryz.underlying9 hi, hq]
set_option maxRecDepth 100000 in
set_option maxHeartbeats 2000000 in
theorem recordsOf_is (e : Nat) (ps : List (List UInt8)) (behind : List UInt8) (he : e ≤ 4611686018427387904) (hps : ∀ p ∈ ps, p.length ≤ 60000) (hb : NoRec behind) (hlen : 64 * secsAll ps + behind.length ≤ 1000000) (w : World) :
    Calls Tryz.prog 58 #[.string (bs (packs e 1 ps ++ behind)), .int .i64 e] w fun r w' => ∃ v, r = .returned (.tuple #[v, .int .i64 (secsAll ps)]) ∧ w'.ownsRow w.heap.size 9 1 v ps.length (ps.map strv) ∧ Below w.heap.size w w' := by
  obtain ⟨i0, hi, hz0, hz1, hz2⟩ := info_parts infoString
  obtain ⟨s, hs⟩ : ∃ s, s = bs (packs e 1 ps ++ behind) := ⟨_, rfl⟩
  have hsz : s.size = 64 * secsAll ps + behind.length := by rw [hs, bs_size, List.length_append, length_packs]
  have hll := length_le_secsAll ps
  rw [← hs]
  have HS := Lib.hid hs
  have HP := Lib.hid hps
  have HN := Lib.hid hb
  clear hs hps hb
  go_enter Tryz.func58, Tryz.ntmps58
  go_wp2_with fail
  go_loopw [6, 7] (fun v av wr => ∃ k : Nat, k ≤ ps.length ∧ av = .int .i64 (64 * secsAll (ps.take k) : Nat) ∧ wr.ownsRow w.heap.size 9 1 v k ((ps.take k).map strv) ∧ Below w.heap.size w wr) (fun _ av _ => s.size + 1 - (intOf av).toNat)
  case atStart => exact ⟨0, by omega, by simp [secsAll], by simpa using World.ownsRow_nil _ _ _ _, Below.refl _ _⟩
  case round =>
    obtain ⟨k, hk, rfl, hown, hB⟩ := hrel
    obtain ⟨b0, cap0, rfl⟩ := own_slice hown
    have hM := secsAll_take (ps := ps) k
    obtain ⟨M, hMe⟩ : ∃ M, M = secsAll (ps.take k) := ⟨_, rfl⟩
    rw [← hMe] at hM
    rw [← hMe]
    obtain ⟨A, hA⟩ : ∃ A, A = 64 * M := ⟨_, rfl⟩
    rw [← hA]
    have hAs : A ≤ s.size := by omega
    obtain ⟨q, hq⟩ : ∃ q, q = s.extract A s.size := ⟨_, rfl⟩
    have hmid : ∀ v : World, (Instr.slice 9 (.string s) (some (.int .i64 (A : Int))) none none).run Tryz.prog v = .ok (.string q) v := run_fromN hAs hq.symm
    have hql : q.data.toList = packs e (1 + k) (ps.drop k) ++ behind := by
      have e1 : packs e 1 ps = packs e 1 (ps.take k) ++ packs e (1 + k) (ps.drop k) := by
        conv => lhs; rw [← List.take_append_drop k ps, packs_append, List.length_take, Nat.min_eq_left hk]
      rw [hq, extract_from, HS.out, bs_list, e1, List.append_assoc, List.drop_left' (by rw [length_packs, ← hMe, hA])]
    have hqs : q.size ≤ 1000000 := by rw [hq, ByteArray.size_extract]; omega
    by_cases hlt : k < ps.length
    · obtain ⟨x, hx⟩ : ∃ x, x = ps.getD k [] := ⟨_, rfl⟩
      have hxm : x.length ≤ 60000 := by
        apply HP.out x; rw [hx, List.getD, List.getElem?_eq_getElem hlt]; exact List.getElem_mem _
      have hdr : ps.drop k = x :: ps.drop (k + 1) := by rw [List.drop_eq_getElem_cons hlt, hx, List.getD, List.getElem?_eq_getElem hlt]; rfl
      have hrec : IsRec q e (k + 1) x := isRec e (k + 1) x (packs e (1 + k + 1) (ps.drop (k + 1)) ++ behind) hxm q (by rw [hql, hdr, packs_cons, List.append_assoc, Nat.add_comm 1 k]) (by omega)
      have hsu := secsAll_take_succ hlt
      rw [← hx, ← hMe] at hsu
      have hle := secsAll_take (ps := ps) (k + 1)
      have htk : (ps.take (k + 1)).map strv = (ps.take k).map strv ++ [.string (bs x)] := by
        rw [List.take_succ_eq_append_getElem hlt, List.map_append, hx, List.getD, List.getElem?_eq_getElem hlt]; rfl
      obtain ⟨m, hm⟩ : ∃ m, m = secs x := ⟨_, rfl⟩
      have hll2 := length_le_secsAll ps
      have hm1 : 1 ≤ m := by rw [hm]; exact secs_pos x
      have CU := Lib.hid (fun (v : World) => Unpack_rec q e (k + 1) x he (by omega) hrec v)
      rw [whole_secs x, ← hm] at CU
      have ek : ((k : Int) + 1) = ((k + 1 : Nat) : Int) := by omega
      have EK := Lib.hid ek
      have HSU := Lib.hid hsu
      have HTK := Lib.hid htk
      have HM := Lib.hid hm
      have hsz2 := hB.size
      have hAm : A + 64 * m ≤ 1000000 := by rw [hsu] at hle; rw [← hm] at hle; omega
      have HO := Lib.hid hown
      have HB := Lib.hid hB
      have HAE := Lib.hid hA
      have HME := Lib.hid hMe
      clear hown hB hq hql hdr hrec hsu htk hx hm ek hA hMe hM hle
      go_wp2_with (first | (go_at_call 77; rw [EK.out]; refine (CU.out _).mono ?_; rintro r w2 ⟨rfl, hb⟩; have HO2 := Lib.hid (own_below HO.out hb); have HB2 := Lib.hid (HB.out.trans (hb.mono HB.out.size)); clear hb; have hsz5 := HB2.out.size) | (go_at_call 39; refine (errorsIs_nil _ _).mono ?_; rintro r w' ⟨rfl, rfl⟩) | (refine wpList_append_own _ rfl (.tmp 29) (.tmp 31) 23 rfl w.heap.size 9 i0 (.string ⟨#[]⟩) 1 16 Tryz.underlying23 hi hz0 hz1 hz2 rfl (by decide) _ k _ rfl (HO2.out.alloc _) ⟨w2.heap.size, 0, none⟩ 1 1 [.string (bs x)] rfl rfl (news_row (heap_alloc_new _ _)) (by intro u hu; simp only [List.mem_singleton] at hu; rw [hu]; rfl) (by unfold maxLen; omega) (by omega) (by simp; omega) ?_; intro v7 w7 h7 hg7 _; have H7 := Lib.hid h7; have B7 := Lib.hid ((HB2.out.alloc (by omega) _).grown hg7 (by simp; omega) (fun k hk => (HO2.out.lt k hk).1)); clear h7 hg7; go_frame) | fail)
      go_roundw
      case rel =>
        refine ⟨k + 1, by omega, ?_, by rw [HTK.out]; exact H7.out, B7.out⟩
        rw [HSU.out, ← HM.out]; have := HAE.out; congr 1; omega
      case measure => have := HAE.out; simp [intOf]; omega
    · have hkl : k = ps.length := by omega
      have hnr : NoRec q.data.toList := by rw [hql, hkl, List.drop_length, packs_nil, List.nil_append]; exact HN.out
      have hMa : M = secsAll ps := by rw [hMe, hkl, List.take_length]
      have CU := Lib.hid (fun (n : Int) (v : World) => Unpack_none q e n hnr v)
      have q64 : (A : Int) / 64 = (M : Int) := by omega
      have HO := Lib.hid hown
      have HB := Lib.hid hB
      have HMA := Lib.hid hMa
      have HKL := Lib.hid hkl
      clear hown hB hq hql hnr hMa hMe hA hkl
      go_wp2_with (first | (go_at_call 77; refine (CU.out _ _).mono ?_; rintro r w2 ⟨g, hg, rfl, hf, hb⟩; have HFA := Lib.hid hf; have HO2 := Lib.hid (own_below HO.out hb); have HB2 := Lib.hid (HB.out.trans (hb.mono HB.out.size)); clear hf hb) | (go_at_call 39; refine (errorsIs_true g 20 0 _ HFA.out).mono ?_; rintro r w' ⟨rfl, rfl⟩) | fail)
      go_ret2
      refine ⟨.slice b0 k cap0, by rw [← HMA.out]; rfl, ?_, HB2.out⟩
      have := HO2.out
      rw [HKL.out, List.take_length] at this
      rw [HKL.out]
      exact this
end Go.Proofs.YtmobjpandmdmdaaGreatDoor
