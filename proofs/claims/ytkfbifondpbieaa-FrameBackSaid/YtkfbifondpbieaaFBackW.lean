/- The walk of FrameBack. -/
import Derived.Test.YtkfbifondpbieaaFLaw1
namespace Go.Proofs.Ytkfbifondpbieaa
open Go.RowKit

/-- The texts, cut. -/
def cuts (ss : List ByteArray) (n : Nat) : List (List UInt8) := (ss.take n).map fun s => s.data.toList.take 200
theorem cuts_zero (ss : List ByteArray) : cuts ss 0 = [] := by simp [cuts]
theorem cuts_succ {ss : List ByteArray} {i : Nat} (h : i < ss.length) : cuts ss (i + 1) = cuts ss i ++ [(ss.getD i ByteArray.empty).data.toList.take 200] := by
  rw [cuts, List.take_succ_eq_append_getElem h, List.map_append, List.getD, List.getElem?_eq_getElem h]; rfl
theorem length_cuts {ss : List ByteArray} {n : Nat} (h : n ≤ ss.length) : (cuts ss n).length = n := by rw [cuts, List.length_map, List.length_take]; omega
theorem texts_le (l : List (List UInt8)) (h : ∀ t ∈ l, t.length ≤ 200) : (Fr.texts l).length ≤ 204 * l.length := by
  induction l with
  | nil => simp [Fr.texts_nil]
  | cons t l ih =>
    rw [Fr.texts_cons, List.length_append, List.length_append, Fr.length_be, List.length_cons]
    have := h t (List.mem_cons_self ..)
    have := ih (fun u hu => h u (List.mem_cons_of_mem _ hu))
    omega
theorem list_cuts {ss : List ByteArray} {n : Nat} (h : n ≤ ss.length) (h20 : n ≤ 20) : (Fr.list (cuts ss n)).length ≤ 60000 := by
  have := texts_le (cuts ss n) (fun t ht => by
    obtain ⟨s, _, rfl⟩ := List.mem_map.1 ht
    rw [List.length_take]; omega)
  rw [length_cuts h] at this
  rw [Fr.length_list]; omega
attribute [irreducible] cuts
set_option maxRecDepth 100000 in
set_option maxHeartbeats 2000000 in
theorem Back_walk (a0 : Option Addr) (b off len cap : Nat) (ss : List ByteArray) (ha : len = 0 ∨ a0 = some ⟨b, off, none⟩) (hl : ss.length = len) (ep nr : Int) (behind : ByteArray) (hbe : behind.size ≤ 140737488355328) (w : World) (hb : len = 0 ∨ b < w.heap.size)
    (hc : ∀ i, i < len → w.cell? ⟨b, off + i, none⟩ = some (.string (ss.getD i ByteArray.empty))) (hlen : len ≤ 9223372036854775807) :
    Calls Try.prog 6 #[.slice a0 len cap, .int .i64 ep, .int .i64 nr, .string behind] w fun e w' => e = .returned (.bool true) ∧ Below w.heap.size w w' := by
  obtain ⟨i0, hi, hz0, hz1, hz2⟩ := info_parts infoString
  have HA := Lib.hid ha
  have HL := Lib.hid hl
  have Hb := Lib.hid hb
  have HC := Lib.hid hc
  clear ha hl hb hc
  go_enter Try.func6, Try.ntmps6
  go_wp2_with fail
  refine (known_any _).mono ?_
  rintro e w1 ⟨rfl, hb⟩
  have HB := Lib.hid hb
  clear hb
  go_wp2_with fail
  go_loopw [10, 11] (fun v iv wr => ∃ i : Nat, i ≤ len ∧ i ≤ 20 ∧ iv = .int .i64 i ∧ wr.ownsRow w.heap.size 9 1 v i ((cuts ss i).map strv) ∧ Below w.heap.size w wr) (fun _ iv _ => 20 - (intOf iv).toNat)
  case atStart => exact ⟨0, by omega, by omega, rfl, by rw [cuts_zero]; exact World.ownsRow_nil _ _ _ _, HB.out⟩
  case round =>
    clear HB
    obtain ⟨i, hil, hi20, rfl, hown, hB⟩ := hrel
    by_cases hlt : i < len ∧ i < 20
    · obtain ⟨hlt, hlt2⟩ := hlt
      rcases HA.out with h0 | h0
      · omega
      subst h0
      have hbw : b < w.heap.size := by rcases Hb.out with h0 | h0 <;> omega
      obtain ⟨s, hs⟩ : ∃ s, s = ss.getD i ByteArray.empty := ⟨_, rfl⟩
      have c0 := (hB.cell (p := ⟨b, off + i, none⟩) hbw).trans (HC.out i hlt)
      rw [← hs] at c0
      have hcut : ∀ v : World, Calls Try.prog 10 #[.string s, .int .i64 200] v fun e w' => e = .returned (.string (bs (s.data.toList.take 200))) ∧ v = w' := cut_any s 200 (by omega)
      obtain ⟨q, hq⟩ : ∃ q, q = bs (s.data.toList.take 200) := ⟨_, rfl⟩
      rw [← hq] at hcut
      have hsucc := cuts_succ (ss := ss) (i := i) (by rw [HL.out]; exact hlt)
      rw [← hs] at hsucc
      have e2 : (cuts ss (i + 1)).map strv = (cuts ss i).map strv ++ [.string q] := by rw [hsucc, List.map_append, List.map_singleton, strv, ← hq]
      have hsz := hB.size
      have HCUT := Lib.hid hcut
      have HE := Lib.hid e2
      have HO := Lib.hid hown
      have HB := Lib.hid hB
      clear hcut e2 hown hB hsucc hs hq
      go_wp2_with (first | (go_at_call 10; refine (HCUT.out _).mono ?_; rintro e w' ⟨rfl, rfl⟩) | (refine wpList_append_own _ rfl (.tmp 33) (.tmp 39) 38 rfl w.heap.size 9 i0 (.string ⟨#[]⟩) 1 16 Try.underlying38 hi hz0 hz1 hz2 rfl (by decide) _ i _ rfl (HO.out.alloc _) ⟨wr.heap.size, 0, none⟩ 1 1 [.string q] rfl rfl (news_row (heap_alloc_new _ _)) (by intro u hu; simp only [List.mem_singleton] at hu; rw [hu]; rfl) (by unfold maxLen; omega) (by omega) (by simp; omega) ?_; intro v7 w7 h7 hg7 _; have H7 := Lib.hid h7; have B7 := Lib.hid ((HB.out.alloc (by omega) _).grown hg7 (by simp; omega) (fun k hk => (HO.out.lt k hk).1)); clear h7 hg7; go_frame))
      go_roundw
      case rel => exact ⟨i + 1, by omega, by omega, by go_num, by rw [HE.out]; exact H7.out, B7.out⟩
      case measure => simp [intOf]; omega
    · obtain ⟨w0, rfl⟩ : ∃ x, x = wr := ⟨_, rfl⟩
      have hLn : (cuts ss i).length = i := length_cuts (by rw [HL.out]; exact hil)
      have hLl : (Fr.list (cuts ss i)).length ≤ 60000 := list_cuts (by rw [HL.out]; exact hil) hi20
      obtain ⟨L, hL⟩ : ∃ L, L = cuts ss i := ⟨_, rfl⟩
      rw [← hL] at hown hLn hLl
      rw [← hLn] at hown
      obtain ⟨b1, g1, cap1, rfl, hrow⟩ := RowAt.of_own hown
      obtain ⟨q, hq⟩ : ∃ q, q = bs (Fr.list L) := ⟨_, rfl⟩
      have hql : q.data.toList = Fr.list L := by rw [hq, bs_list]
      have hqs : q.size ≤ 60000 := by rw [← size_toList, hql]; exact hLl
      have hLi := List_ok b1 g1 L.length cap1 L hLl w0 hrow
      rw [← hq, hLn] at hLi
      rw [hLn] at hrow
      have HLI := Lib.hid hLi
      have HQL := Lib.hid hql
      have HLL := Lib.hid hLl
      have HR1 := Lib.hid hrow
      have HB := Lib.hid hB
      have hn1 : ¬ ((i : Int) < (len : Int) ∧ (i : Int) < 20) := by omega
      clear hown hrow hB hLi hql hq hL hlt
      go_wp2_with fail
      all_goals
        refine HLI.out.mono ?_
        rintro e w2 ⟨rfl, hb⟩
        replace HR1 := Lib.hid (HR1.out.below (Nat.le_refl _) hb)
        replace HB := Lib.hid (HB.out.trans (hb.mono HB.out.size))
        clear hb
        go_wp2_with fail
        refine (Split_any q (by omega) _).mono ?_
        rintro e w3 (⟨p, hsp, _⟩ | ⟨ts, v, hsp, rfl, hown, hb⟩)
        · rw [HQL.out, Fr.split_list L HLL.out] at hsp; cases hsp
        rw [HQL.out, Fr.split_list L HLL.out] at hsp
        injection hsp with hsp
        subst hsp
        obtain ⟨b2, g2, cap2, rfl, hrow2⟩ := RowAt.of_own hown
        rw [hLn] at hrow2
        replace HR1 := Lib.hid (HR1.out.below (Nat.le_refl _) hb)
        replace HB := Lib.hid (HB.out.trans (hb.mono HB.out.size))
        have HR2 := Lib.hid hrow2
        clear hb hown hrow2
        go_wp2_with fail
        go_loopw [16] (fun kv wr => ∃ k : Nat, k ≤ i ∧ kv = .int .i64 k ∧ RowAt b1 g1 i L wr ∧ RowAt b2 g2 i L wr ∧ Below w.heap.size w wr) (fun kv _ => i - (intOf kv).toNat)
        case atStart => exact ⟨0, by omega, rfl, HR1.out, HR2.out, HB.out⟩
        case round =>
          clear HR1 HR2 HB
          obtain ⟨k, hk, rfl, hr1, hr2, hB⟩ := hrel
          by_cases hlt : k < i
          · rcases hr1.2.1 with h0 | ⟨hb1, hg1⟩
            · omega
            rcases hr2.2.1 with h0 | ⟨hb2, hg2⟩
            · omega
            subst hb1 hb2
            have c1 := hr1.2.2 k hlt
            have c2 := hr2.2.2 k hlt
            unfold strv at c1 c2
            obtain ⟨x, hx⟩ : ∃ x, x = bs (L.getD k []) := ⟨_, rfl⟩
            rw [← hx] at c1 c2
            have d1 : wr.drew.cell? ⟨g1, k, none⟩ = some (.string x) := c1
            have d2 : wr.drew.cell? ⟨g2, k, none⟩ = some (.string x) := c2
            have HR1 := Lib.hid hr1
            have HR2 := Lib.hid hr2
            have HB := Lib.hid hB
            clear hr1 hr2 hB hx
            go_wp2_with fail
            go_region
            all_goals
              go_wp2_with fail
              go_roundw
              case rel =>
                exact ⟨k + 1, by omega, by go_num, HR1.out, HR2.out, HB.out.drew⟩
              case measure => simp [intOf]; omega
          · have HB := Lib.hid hB
            clear hr1 hr2 hB
            by_cases hbad : ep < 0 ∨ 4611686018427387904 < ep ∨ nr < 0 ∨ 4294967295 < nr
            · rcases hbad with h | h | h | h
              all_goals
                go_wp2_with fail
                all_goals
                  go_ret
                  exact ⟨rfl, HB.out⟩
            · obtain ⟨e', rfl⟩ : ∃ e' : Nat, ep = e' := ⟨ep.toNat, by omega⟩
              obtain ⟨n', rfl⟩ : ∃ n' : Nat, nr = n' := ⟨nr.toNat, by omega⟩
              have he : e' ≤ 4611686018427387904 := by omega
              have hn : n' ≤ 4294967295 := by omega
              obtain ⟨P, hP⟩ : ∃ P, P = bs (Fr.record e' n' q.data.toList) := ⟨_, rfl⟩
              have hPl : P.data.toList = Fr.record e' n' q.data.toList := by rw [hP, bs_list]
              have hPs : P.size = Fr.whole q.size := by rw [← size_toList, hPl, Fr.length_record, size_toList]
              have hw1 := Fr.whole_le q.size
              have hrec : IsRec (P ++ behind) e' n' q.data.toList := isRec e' n' _ behind.data.toList (by rw [size_toList]; omega) _ (by rw [← hPl]; simp) (by rw [ByteArray.size_append]; omega)
              have CP := Lib.hid (fun v : World => Pack_ok e' n' q he hn (by omega) v)
              have CU := Lib.hid (fun v : World => Unpack_rec (P ++ behind) e' n' q.data.toList he hn hrec v)
              rw [← hP] at CP
              rw [bs_self, size_toList, ← hPs] at CU
              have hmod : (P.size : Int).tmod 64 = 0 := by
                rw [Int.tmod_eq_emod_of_nonneg (by omega), hPs]
                have := Fr.whole_mod q.size
                omega
              have hmod2 : (P.size : Int) % 64 = 0 := by
                rw [hPs]
                have := Fr.whole_mod q.size
                omega
              have hPsz : P.size ≤ 60087 := by omega
              clear hP hPl hPs hw1 hrec hbad
              go_wp2_with (first | (go_at_call 17; refine (CP.out _).mono ?_; rintro r w5 ⟨rfl, hb⟩; replace HB := Lib.hid (HB.out.trans (hb.mono HB.out.size)); clear hb) | (go_at_call 22; refine (CU.out _).mono ?_; rintro r w6 ⟨rfl, hb⟩; replace HB := Lib.hid (HB.out.trans (hb.mono HB.out.size)); clear hb))
              all_goals
                go_ret
                exact ⟨rfl, HB.out⟩
end Go.Proofs.Ytkfbifondpbieaa
