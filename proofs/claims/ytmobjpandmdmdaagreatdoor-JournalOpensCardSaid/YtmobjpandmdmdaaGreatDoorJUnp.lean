/- Unpack of any text: a record, or none. -/
import Derived.Test.YtmobjpandmdmdaaGreatDoorJEpoch
namespace Go.Proofs.YtmobjpandmdmdaaGreatDoor
open Go.RowKit
attribute [local go_sem high] run_index_byte_0

set_option maxRecDepth 100000 in
set_option maxHeartbeats 1000000 in
theorem Unpack_big (s : ByteArray) (e n m : Nat) (hs : 64 ≤ s.size) (hmost : s.size ≤ 281474976710656) (hmark : strAt s 0 = 1) (hnum : Fr.num ((s.data.toList.take 8).drop 4) = m) (hm : 60000 < m) (w : World) :
    Calls Tryz.prog 77 #[.string s, .int .i64 e, .int .i64 n] w (Refused 20 0 (fun v => .tuple #[.string ⟨#[]⟩, .int .i64 0, v]) w) := by
  have hb := is_one hmark
  have h0 : 0 < s.size := by omega
  have hml : m < 4294967296 := by
    have := Fr.num_lt ((s.data.toList.take 8).drop 4)
    have h2 : ((s.data.toList.take 8).drop 4).length ≤ 4 := by rw [List.length_drop, List.length_take]; omega
    have h3 : 256 ^ ((s.data.toList.take 8).drop 4).length ≤ 256 ^ 4 := Nat.pow_le_pow_right (by decide) h2
    have h4 : (256 : Nat) ^ 4 = 4294967296 := by decide
    omega
  have HN := Lib.hid (fun v : World => (show Calls Tryz.prog 87 #[.string (s.extract 4 8)] v fun e w' => e = .returned (.int .u64 m) ∧ v = w' by
    have := numberOf_any (s.extract 4 8) (by rw [← size_toList, extract_list, List.length_drop, List.length_take]; omega) v
    rw [extract_list, hnum] at this
    exact this))
  have CH := Lib.hid (fun v : World => headOf_bad e n m (by unfold BadHead; omega) v)
  clear hmark hnum hmost
  go_enter Tryz.func77, Tryz.ntmps77
  go_wp2_with (first | (go_at_call 86; refine (fault_is 20 0 _).mono ?_; rintro r w' ⟨g, hg, rfl, hf, hb2⟩; have HF := Lib.hid hf; have HB := Lib.hid hb2; clear hf hb2) | (go_at_call 87; refine (HN.out _).mono ?_; rintro r w' ⟨rfl, rfl⟩) | (go_at_call 88; refine (CH.out _).mono ?_; rintro r wa ⟨ga, hga, rfl, hfa, hba⟩; have HFA := Lib.hid hfa; have HBA := Lib.hid hba; clear hfa hba) | (go_at_call 39; refine (errorsIs_true ga 1 0 _ HFA.out).mono ?_; rintro r w' ⟨rfl, rfl⟩))
  go_ret3
  exact ⟨g, Nat.le_trans HBA.out.size hg, rfl, HF.out, HBA.out.trans (HB.out.mono HBA.out.size)⟩
set_option maxRecDepth 100000 in
set_option maxHeartbeats 1000000 in
theorem Unpack_long (s : ByteArray) (e n m : Nat) (he : e ≤ 4611686018427387904) (hn : n ≤ 4294967295) (h : Looks s m) (hh : (s.extract 4 20).data.toList = Fr.headOf e n m) (hw : s.size < Fr.whole m) (w : World) :
    Calls Tryz.prog 77 #[.string s, .int .i64 e, .int .i64 n] w (Refused 20 0 (fun v => .tuple #[.string ⟨#[]⟩, .int .i64 0, v]) w) := by
  have hb := is_one h.mark
  have hs := h.size
  have h0 : 0 < s.size := by omega
  have hm := h.few
  obtain ⟨W, hW⟩ : ∃ W, W = Fr.whole m := ⟨_, rfl⟩
  rw [← hW] at hw
  obtain ⟨q, hq⟩ : ∃ q, q = bs (Fr.headOf e n m) := ⟨_, rfl⟩
  have hne : ((s.extract 4 20).toList == q.toList) = true := by rw [ByteArray.toList_eq, ByteArray.toList_eq, beq_iff_eq, hq, bs_list]; exact hh
  have HQ := Lib.hid hq
  have HW := Lib.hid hW
  have HN := Lib.hid (fun v : World => h.number v)
  clear h hq hh hW
  go_enter Tryz.func77, Tryz.ntmps77
  go_wp2_with (first | (go_at_call 86; refine (fault_is 20 0 _).mono ?_; rintro r w' ⟨g, hg, rfl, hf, hb2⟩; have HF := Lib.hid hf; have HB := Lib.hid hb2; clear hf hb2) | (go_at_call 87; refine (HN.out _).mono ?_; rintro r w' ⟨rfl, rfl⟩) | (go_at_call 88; refine (headOf_ok e n m he hn hm _).mono ?_; rintro r wa ⟨rfl, hb⟩; rw [← HQ.out]; have HBA := Lib.hid hb; clear hb) | (go_at_call 39; refine (errorsIs_nil _ _).mono ?_; rintro r w' ⟨rfl, rfl⟩) | (go_at_call 89; refine (whole_any m (by omega) _).mono ?_; rintro r w' ⟨rfl, rfl⟩; rw [← HW.out]))
  go_ret3
  exact ⟨g, Nat.le_trans HBA.out.size hg, rfl, HF.out, HBA.out.trans (HB.out.mono HBA.out.size)⟩
/-- No record of an epoch and a number begins the text. -/
def NotRec (s : ByteArray) (e n : Nat) : Prop := ∀ p, ¬ IsRec s e n p
theorem Unpack_not (s : ByteArray) (e n : Nat) (he : e ≤ 4611686018427387904) (hn : n ≤ 4294967295) (hmost : s.size ≤ 281474976710656) (h : NotRec s e n) (w : World) :
    Calls Tryz.prog 77 #[.string s, .int .i64 e, .int .i64 n] w (Refused 20 0 (fun v => .tuple #[.string ⟨#[]⟩, .int .i64 0, v]) w) := by
  by_cases hs : s.size < 64
  · exact Unpack_short s e n hs w
  · by_cases hmark : strAt s 0 = 1
    · obtain ⟨m, hm⟩ : ∃ m, Fr.num ((s.data.toList.take 8).drop 4) = m := ⟨_, rfl⟩
      by_cases hbig : 60000 < m
      · exact Unpack_big s e n m (by omega) hmost hmark hm hbig w
      · have hL : Looks s m := ⟨by omega, hmost, hmark, hm, by omega⟩
        by_cases hh : (s.extract 4 20).data.toList = Fr.headOf e n m
        · by_cases hw : s.size < Fr.whole m
          · exact Unpack_long s e n m he hn hL hh hw w
          · obtain ⟨p, hp⟩ : ∃ p, (s.extract 24 (24 + m)).data.toList = p := ⟨_, rfl⟩
            by_cases hx : (s.extract 20 24).data.toList = Fr.sumOf (Fr.headOf e n m) p
            · have hpl : p.length = m := by
                have := Fr.whole_ge m
                rw [← hp, extract_list, List.length_drop, List.length_take, size_toList]; omega
              exact absurd ⟨by rw [hpl]; exact hL, by rw [hpl]; exact hh, by rw [hpl]; omega, by rw [hpl]; exact hp, by rw [hpl]; exact hx⟩ (h p)
            · exact Unpack_sum s e n m p he hn hL hh (by omega) hp hx w
        · exact Unpack_head s e n m he hn hL hh w
    · exact Unpack_mark s e n (by omega) hmark w
theorem IsRec.one {s : ByteArray} {e n : Nat} {p p' : List UInt8} (h : IsRec s e n p) (h' : IsRec s e n p') : p = p' := by
  have e1 := h.looks.num
  have e2 := h'.looks.num
  have hl : p.length = p'.length := e1.symm.trans e2
  rw [← h.text, ← h'.text, hl]
/-- What epochOf answers of any sector. -/
def EpochG (s : ByteArray) (R : Nat) : Prop :=
  (R = 0 ∧ (4611686018427387904 < Fr.num ((s.data.toList.drop 12).take 8) ∨ Fr.num ((s.data.toList.drop 12).take 8) = 0 ∨ ¬ IsRec s (Fr.num ((s.data.toList.drop 12).take 8)) 0 title)) ∨ (IsRec s R 0 title ∧ 1 ≤ R ∧ R ≤ 4611686018427387904)
theorem EpochG.most {s : ByteArray} {R : Nat} (h : EpochG s R) : R ≤ 4611686018427387904 := by
  rcases h with ⟨rfl, _⟩ | ⟨_, _, h⟩
  · omega
  · exact h
theorem epochG_is (s : ByteArray) : ∃ R, EpochG s R := by
  obtain ⟨N, hN⟩ : ∃ N, N = Fr.num ((s.data.toList.drop 12).take 8) := ⟨_, rfl⟩
  by_cases h : 1 ≤ N ∧ N ≤ 4611686018427387904 ∧ IsRec s N 0 title
  · exact ⟨N, Or.inr ⟨h.2.2, h.1, h.2.1⟩⟩
  · refine ⟨0, Or.inl ⟨rfl, ?_⟩⟩
    rw [← hN]
    by_cases h1 : 4611686018427387904 < N
    · exact Or.inl h1
    · by_cases h2 : N = 0
      · exact Or.inr (Or.inl h2)
      · exact Or.inr (Or.inr (fun h3 => h ⟨by omega, by omega, h3⟩))
attribute [local go_sem high] run_index_byte
set_option maxRecDepth 100000 in
set_option maxHeartbeats 2000000 in
theorem epochOf_gen (s : ByteArray) (R : Nat) (hs : s.size = 64) (h : EpochG s R) (w : World) :
    Calls Tryz.prog 55 #[.string s] w fun e w' => e = .returned (.int .i64 R) ∧ Below w.heap.size w w' := by
  have H := Lib.hid h
  have HLD := Lib.hid (show (s.data.toList.drop 12).length = 52 by rw [List.length_drop, size_toList, hs])
  clear h
  go_enter Tryz.func55, Tryz.ntmps55
  go_wp2_with fail
  go_loopw [3, 8] (fun r i wr => ∃ j : Nat, j ≤ 8 ∧ i = .int .i64 j ∧ r = .int .u64 (Fr.num ((s.data.toList.drop 12).take j)) ∧ wr = w) (fun _ i _ => 8 - (intOf i).toNat)
  case atStart => exact ⟨0, by omega, rfl, by rw [List.take_zero, Fr.num_nil]; rfl, rfl⟩
  case round =>
    obtain ⟨j, hj, rfl, rfl, rfl⟩ := hrel
    by_cases hlt : j < 8
    · obtain ⟨N, hN⟩ : ∃ N, N = Fr.num ((s.data.toList.drop 12).take j) := ⟨_, rfl⟩
      rw [← hN]
      go_wp2_with fail
      go_roundw
      case rel => exact ⟨j + 1, by omega, by go_num, (by
        rw [or_shift _ _ (by have := num_lt7 (s.data.toList.drop 12) j (by omega); omega), List.take_succ_eq_append_getElem (by rw [HLD.out]; omega), Fr.num_snoc, List.getElem_drop, hN]; rfl), trivial⟩
      case measure => simp [intOf]; omega
    · obtain rfl : j = 8 := by omega
      have hN8 := num_lt8 (s.data.toList.drop 12) 8 (Nat.le_refl _)
      rcases H.out with ⟨rfl, h⟩ | ⟨h, h1, h2⟩
      · obtain ⟨N, hN⟩ : ∃ N, N = Fr.num ((s.data.toList.drop 12).take 8) := ⟨_, rfl⟩
        rw [← hN] at hN8 h ⊢
        by_cases hbig : N ≤ 4611686018427387904
        · by_cases hrec : ∃ p, IsRec s N 0 p
          · obtain ⟨p, hp⟩ := hrec
            have hpl := hp.looks.few
            have CU := Lib.hid (fun (v : World) => show Calls Tryz.prog 77 #[.string s, .int .i64 N, .int .i64 0] v _ from Unpack_rec s N 0 p hbig (by omega) hp v)
            by_cases ht : p = title
            · have hN0 : N = 0 := by
                rcases h with h | h | h
                · omega
                · exact h
                · exact absurd (ht ▸ hp) h
              have HN0 := Lib.hid (show (N : Int) = 0 by omega)
              rw [ht, title_bs] at CU
              clear h hN hp ht hN0 hpl
              go_wp2_with (first | (go_at_call 77; refine (CU.out _).mono ?_; rintro r w2 ⟨rfl, hb⟩; have HB := Lib.hid hb; clear hb) | (go_at_call 39; refine (errorsIs_nil _ _).mono ?_; rintro r w' ⟨rfl, rfl⟩) | fail)
              go_ret
              exact ⟨by rw [HN0.out]; rfl, HB.out⟩
            · obtain ⟨q, hq⟩ : ∃ q, q = bs p := ⟨_, rfl⟩
              have hne : (q.toList == [106, 111, 117, 114, 110, 97, 108]) = false := by
                rw [beq_eq_false_iff_ne, ByteArray.toList_eq, hq, bs_list]; exact ht
              rw [← hq] at CU
              clear h hN hp ht hq hpl
              go_wp2_with (first | (go_at_call 77; refine (CU.out _).mono ?_; rintro r w2 ⟨rfl, hb⟩; have HB := Lib.hid hb; clear hb) | (go_at_call 39; refine (errorsIs_nil _ _).mono ?_; rintro r w' ⟨rfl, rfl⟩) | fail)
              go_ret
              exact ⟨rfl, HB.out⟩
          · have CU := Lib.hid (fun (v : World) => show Calls Tryz.prog 77 #[.string s, .int .i64 N, .int .i64 0] v _ from Unpack_not s N 0 hbig (by omega) (by omega) (fun p hp => hrec ⟨p, hp⟩) v)
            clear h hN hrec
            go_wp2_with (first | (go_at_call 77; refine (CU.out _).mono ?_; rintro r w2 ⟨g, hg, rfl, hf, hb⟩; have HFA := Lib.hid hf; have HB := Lib.hid hb; clear hf hb) | (go_at_call 39; refine (errorsIs_true g 20 0 _ HFA.out).mono ?_; rintro r w' ⟨rfl, rfl⟩) | fail)
            go_ret
            exact ⟨rfl, HB.out⟩
        · clear h hN
          go_wp2_with fail
          go_ret
          exact ⟨rfl, Below.refl _ _⟩
      · rw [h.epoch (by omega)] at hN8 ⊢
        have CU := Lib.hid (fun (v : World) => show Calls Tryz.prog 77 #[.string s, .int .i64 R, .int .i64 0] v _ from Unpack_rec s R 0 title h2 (by omega) h v)
        rw [title_bs] at CU
        clear h
        go_wp2_with (first | (go_at_call 77; refine (CU.out _).mono ?_; rintro r w2 ⟨rfl, hb⟩; have HB := Lib.hid hb; clear hb) | (go_at_call 39; refine (errorsIs_nil _ _).mono ?_; rintro r w' ⟨rfl, rfl⟩) | fail)
        go_ret
        exact ⟨rfl, HB.out⟩
/-- The records of an epoch from a number on, with which a text begins. -/
inductive Chain (e : Nat) : Nat → List UInt8 → List (List UInt8) → Prop
  | stop {n : Nat} {l : List UInt8} (h : NotRec (bs l) e n) : Chain e n l []
  | next {n : Nat} {l p : List UInt8} {ps : List (List UInt8)} (h : IsRec (bs l) e n p) (t : Chain e (n + 1) (l.drop (64 * secs p)) ps) : Chain e n l (p :: ps)
theorem chain_is (e : Nat) : ∀ (k n : Nat) (l : List UInt8), l.length ≤ k → ∃ ps, Chain e n l ps := by
  intro k
  induction k with
  | zero => intro n l hl; exact ⟨[], .stop (fun p hp => by have := hp.looks.size; rw [bs_size] at this; omega)⟩
  | succ k ih =>
    intro n l hl
    by_cases h : ∃ p, IsRec (bs l) e n p
    · obtain ⟨p, hp⟩ := h
      have hs := hp.looks.size
      rw [bs_size] at hs
      have := secs_pos p
      obtain ⟨ps, t⟩ := ih (n + 1) (l.drop (64 * secs p)) (by rw [List.length_drop]; omega)
      exact ⟨p :: ps, .next hp t⟩
    · exact ⟨[], .stop (fun p hp => h ⟨p, hp⟩)⟩
theorem Chain.len {e n : Nat} {l : List UInt8} {ps : List (List UInt8)} (h : Chain e n l ps) : 64 * secsAll ps ≤ l.length := by
  induction h with
  | stop => simp [secsAll]
  | next h t ih =>
    have hw := h.whole
    rw [whole_secs, bs_size] at hw
    rw [List.length_drop] at ih
    rw [secsAll_cons]; omega
theorem Chain.few {e n : Nat} {l : List UInt8} {ps : List (List UInt8)} (h : Chain e n l ps) : ∀ p ∈ ps, p.length ≤ 60000 := by
  induction h with
  | stop => simp
  | next h t ih =>
    intro p hp
    rcases List.mem_cons.1 hp with rfl | hp
    · exact h.looks.few
    · exact ih p hp
theorem Chain.at {e n : Nat} {l : List UInt8} {ps : List (List UInt8)} (h : Chain e n l ps) : ∀ k, k ≤ ps.length → Chain e (n + k) (l.drop (64 * secsAll (ps.take k))) (ps.drop k) := by
  induction h with
  | stop h =>
    intro k hk
    obtain rfl : k = 0 := by simpa using hk
    simpa [secsAll] using Chain.stop h
  | next h t ih =>
    intro k hk
    cases k with
    | zero => simpa [secsAll] using Chain.next h t
    | succ k =>
      have := ih k (by simpa using hk)
      rw [List.drop_drop] at this
      rw [List.take_succ_cons, secsAll_cons, List.drop_succ_cons, Nat.mul_add, show ∀ n : Nat, n + (k + 1) = n + 1 + k from fun n => by omega]
      exact this
theorem Chain.head {e n : Nat} {l : List UInt8} {ps : List (List UInt8)} (h : Chain e n l ps) (hl : 0 < ps.length) : IsRec (bs l) e n (ps.getD 0 []) := by
  cases h with
  | stop => simp at hl
  | next h t => exact h
theorem Chain.none {e n : Nat} {l : List UInt8} (h : Chain e n l []) : NotRec (bs l) e n := by cases h; assumption
end Go.Proofs.YtmobjpandmdmdaaGreatDoor
