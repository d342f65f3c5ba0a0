/- The walk of a text in base 64, its threes one behind the other. -/
import Derived.Test.YtjalmmhbjilabaaBase64
namespace Go.Proofs.Ytjalmmhbjilabaa
open Go.RowKit
theorem or_24 (x y z : UInt8) : bits .or .u32 (bits .or .u32 ((x.toNat : Int) % 4294967296 * 65536 % 4294967296) ((y.toNat : Int) % 4294967296 * 256 % 4294967296)) ((z.toNat : Int) % 4294967296) = ((Dig.num3 x y z : Nat) : Int) := by
  rw [Dig.num3_eq]
  have hx := x.toNat_lt
  have hy := y.toNat_lt
  have hz := z.toNat_lt
  have e1 : x.toNat * 65536 ||| y.toNat * 256 = x.toNat * 65536 + y.toNat * 256 := by
    rw [show x.toNat * 65536 = 2 ^ 16 * x.toNat from by omega, ← Nat.two_pow_add_eq_or_of_lt (i := 16) (b := y.toNat * 256) (by omega)]
  have e2 : (x.toNat * 65536 + y.toNat * 256) ||| z.toNat = x.toNat * 65536 + y.toNat * 256 + z.toNat := by
    rw [show x.toNat * 65536 + y.toNat * 256 = 2 ^ 8 * (x.toNat * 256 + y.toNat) from by omega, ← Nat.two_pow_add_eq_or_of_lt (i := 8) (b := z.toNat) (by omega)]
  rw [show (x.toNat : Int) % 4294967296 * 65536 % 4294967296 = ((x.toNat * 65536 : Nat) : Int) from by omega, show (y.toNat : Int) % 4294967296 * 256 % 4294967296 = ((y.toNat * 256 : Nat) : Int) from by omega,
    show (z.toNat : Int) % 4294967296 = (z.toNat : Int) from by omega, u32_or_nat _ _ (by omega) (by omega), e1, u32_or_nat _ _ (by omega) (by omega), e2]
theorem and_63 (x : Nat) (h : x < 16777216) : bits .and .u32 (x : Int) 63 = ((x % 64 : Nat) : Int) := by
  rw [show (63 : Int) = ((63 : Nat) : Int) from rfl, u32_and_nat _ _ (by omega) (by omega), show (63 : Nat) = 2 ^ 6 - 1 from rfl, Nat.and_two_pow_sub_one_eq_mod]
theorem index_64 {P : Program} (w : World) (t : TypeId) (k : IntKind) (x : Nat) (i : Int) (hi : i = (x : Int)) (hx : x < 16777216) (h : P.underlying t = some .string) :
    (Instr.index t (.string tab64) (.int k (bits .and .u32 i 63))).run P w = .ok (.int .u8 ((Dig.dig64 (x % 64)).toNat : Int)) w := by
  subst hi
  rw [and_63 x hx, run_index_byte w t _ k _ h (by rw [tab64_size]; omega), strAt_eq, tab64_list]
  congr 3; unfold Dig.dig64; rfl
theorem index_64_0 {P : Program} (w : World) (t : TypeId) (k : IntKind) (A : Nat) (hA : A < 16777216) (h : P.underlying t = some .string) :
    (Instr.index t (.string tab64) (.int k (bits .and .u32 ((A : Int) / 262144) 63))).run P w = .ok (.int .u8 ((Dig.dig64 (A / 262144 % 64)).toNat : Int)) w := index_64 w t k _ _ (by omega) (by omega) h
theorem index_64_1 {P : Program} (w : World) (t : TypeId) (k : IntKind) (A : Nat) (hA : A < 16777216) (h : P.underlying t = some .string) :
    (Instr.index t (.string tab64) (.int k (bits .and .u32 ((A : Int) / 4096) 63))).run P w = .ok (.int .u8 ((Dig.dig64 (A / 4096 % 64)).toNat : Int)) w := index_64 w t k _ _ (by omega) (by omega) h
theorem index_64_2 {P : Program} (w : World) (t : TypeId) (k : IntKind) (A : Nat) (hA : A < 16777216) (h : P.underlying t = some .string) :
    (Instr.index t (.string tab64) (.int k (bits .and .u32 ((A : Int) / 64) 63))).run P w = .ok (.int .u8 ((Dig.dig64 (A / 64 % 64)).toNat : Int)) w := index_64 w t k _ _ (by omega) (by omega) h
theorem index_64_3 {P : Program} (w : World) (t : TypeId) (k : IntKind) (A : Nat) (hA : A < 16777216) (h : P.underlying t = some .string) :
    (Instr.index t (.string tab64) (.int k (bits .and .u32 (A : Int) 63))).run P w = .ok (.int .u8 ((Dig.dig64 (A % 64)).toNat : Int)) w := index_64 w t k _ _ rfl hA h
attribute [local go_sem high] or_24 run_rest_string index_64_0 index_64_1 index_64_2 index_64_3 fold_tab64

theorem own_heap {w w' : World} {B g n cap : Nat} {e : TypeId} {xs : List Value} (h : w.ownsRow B e 1 (.slice (some ⟨g, 0, none⟩) n cap) n xs) (hh : w'.heap[g]? = w.heap[g]?) : w'.ownsRow B e 1 (.slice (some ⟨g, 0, none⟩) n cap) n xs := by
  refine ⟨h.1, ?_⟩
  rcases h.2 with ⟨h0, _⟩ | ⟨g', cap', cur, h0, hB, hg, r⟩
  · simp at h0
  · right
    refine ⟨g', cap', cur, h0, hB, ?_, r⟩
    simp only [Value.slice.injEq, Option.some.injEq, Addr.mk.injEq, and_true, true_and] at h0
    obtain ⟨rfl, rfl⟩ := h0
    rw [hh]; exact hg
set_option maxRecDepth 100000 in
set_option maxHeartbeats 1000000 in
theorem Base64_any (s : ByteArray) (hs : s.size ≤ 140737488355328) (w : World) :
    Calls Try.prog 19 #[.string s] w fun e w' => e = .returned (.string ⟨(Dig.enc s.data.toList).toArray⟩) ∧ Below w.heap.size w w' := by
  obtain ⟨i0, hi, hz0, hz1, hz2⟩ := info_parts infoByte
  obtain ⟨l, hl⟩ : ∃ l, l = s.data.toList := ⟨_, rfl⟩
  have hlen : l.length = s.size := by rw [hl]; exact size_toList s
  rw [← hl]
  have HL := Lib.hid hl
  have HLEN := Lib.hid hlen
  clear hl hlen
  obtain ⟨C, hC⟩ : ∃ C, C = (s.size + 2) / 3 * 4 := ⟨_, rfl⟩
  have HC := Lib.hid hC
  have hC2 : C ≤ 281474976710656 := by omega
  clear hC
  go_enter Try.func19, Try.ntmps19
  go_wp2_with (refine wpList_make_row rfl 57 _ _ rfl 5 i0 (.int .u8 0) 1 Try.underlying57 hi hz0 hz1 hz2 rfl 0 C rfl (int64_congr (by have := HC.out; omega)) (by omega) (by omega) (by omega) ?_; intro w1 hown hb1; go_frame)
  have hown1 := hown.out
  clear hown
  go_loopw [3, 4] (fun v i wr => ∃ (k : Nat) (T : List UInt8), 3 * k ≤ s.size + 2 ∧ T.length = 4 * k ∧ i = .int .i64 (3 * k : Nat) ∧ v = .slice (some ⟨w.heap.size, 0, none⟩) (4 * k) C ∧ Dig.enc l = T ++ Dig.enc (l.drop (3 * k)) ∧
    wr.ownsRow w.heap.size 5 1 (.slice (some ⟨w.heap.size, 0, none⟩) (4 * k) C) (4 * k) (T.map u8v) ∧ Below w.heap.size w wr) (fun _ i _ => s.size + 2 - (intOf i).toNat)
  case atStart => exact ⟨0, [], by omega, rfl, rfl, rfl, rfl, hown1, hb1⟩
  case round =>
    clear hown1 hb1
    obtain ⟨k, T, hk, hT, rfl, rfl, hE, hown, hB⟩ := hrel
    by_cases hlt : 3 * k < s.size
    · have hsz := hB.size
      obtain ⟨n, hn⟩ : ∃ n, n = 3 * k := ⟨_, rfl⟩
      rw [← hn] at hlt ⊢
      have HN := Lib.hid hn
      have HE := Lib.hid hE
      have HT := Lib.hid hT
      have HO := Lib.hid hown
      have HB := Lib.hid hB
      clear hn hE hT hown hB
      go_wp2_with (first | (refine wpList_alloc rfl 63 rfl _ alloc3 ?_; go_frame) | fail)
      obtain ⟨w2, hw2⟩ : ∃ w2, w2 = wr.alloc (.cells [Value.int .u8 0, .int .u8 0, .int .u8 0].toArray 63) := ⟨_, rfl⟩
      rw [← hw2]
      have g2 : w2.heap[wr.heap.size]? = some (.cells [Value.int .u8 0, .int .u8 0, .int .u8 0].toArray 63 (0, 0)) := by rw [hw2]; exact heap_alloc_new _ _
      have hO2 : w2.ownsRow w.heap.size 5 1 (.slice (some ⟨w.heap.size, 0, none⟩) (4 * k) C) (4 * k) (T.map u8v) := by rw [hw2]; exact HO.out.alloc _
      have hB2 : Below w.heap.size w w2 := by rw [hw2]; exact HB.out.alloc hsz _
      obtain ⟨q, hq⟩ : ∃ q, q = s.extract n s.size := ⟨_, rfl⟩
      have hql : q.data.toList = l.drop n := by rw [hq, extract_rest, HL.out]
      have ht2 : w2.there wr.heap.size 0 (Nat.min q.size 3) := there_of_list g2 (by have := Nat.min_le_right q.size 3; simpa using this)
      obtain ⟨ch, hch⟩ : ∃ ch, ch = (l.drop n).take 3 := ⟨_, rfl⟩
      have hqs : q.size = s.size - n := by have := size_toList q; rw [hql, List.length_drop, HLEN.out] at this; exact this.symm
      have hcl : ch.length = Nat.min q.size 3 := by rw [hch, List.length_take, ← hql, size_toList]; exact Nat.min_comm _ _
      have hcc : strCells q (Nat.min q.size 3) = ch.map u8v := by
        rw [strCells, hql, hch]; congr 1; rw [hqs]
        by_cases h3 : s.size - n ≤ 3
        · rw [show Nat.min (s.size - n) 3 = s.size - n from Nat.min_eq_left h3, List.take_of_length_le (by rw [List.length_drop, HLEN.out]; omega), List.take_of_length_le (by rw [List.length_drop, HLEN.out]; omega)]
        · rw [show Nat.min (s.size - n) 3 = 3 from Nat.min_eq_right (by omega)]
      have hm1 : 1 ≤ ch.length := by rw [hcl, hqs]; exact Nat.le_min.2 ⟨by omega, by omega⟩
      have hm3 : ch.length ≤ 3 := by rw [hcl]; exact Nat.min_le_right _ _
      have hnb := (HO.out.lt w.heap.size rfl).2
      have HQ := Lib.hid hcc
      have HCH := Lib.hid hch
      clear hw2 hql hqs hch hcc
      subst hq
      have hns : n ≤ s.size := by omega
      rw [← hcl] at ht2 HQ
      have HCL := Lib.hid hcl
      have G2 := Lib.hid g2
      have O2 := Lib.hid hO2
      clear hcl g2 hO2
      go_region_law (first | (refine step_copy_str rfl (.tmp 21) (.tmp 24) 57 9 rfl 5 Try.underlying57 (by kernel_rfl) wr.heap.size 0 3 3 (s.extract n s.size) rfl rfl (by rw [← HCL.out]; exact ht2) ?_; rw [← HCL.out, HQ.out]; go_frame) | fail)
      obtain ⟨w3, hw3⟩ : ∃ w3, w3 = w2.drew.setCells wr.heap.size 0 (ch.map u8v) := ⟨_, rfl⟩
      rw [← hw3]
      have g3 : w3.heap[wr.heap.size]? = some (.cells [.int .u8 (ch.getD 0 0).toNat, .int .u8 (ch.getD 1 0).toNat, .int .u8 (ch.getD 2 0).toNat].toArray 63 (0, 0)) := by
        rw [hw3, setCells_list _ _ _ _ (by rw [heap_drew]; exact G2.out), laid3 ch hm3]
      have hO3 : w3.ownsRow w.heap.size 5 1 (.slice (some ⟨w.heap.size, 0, none⟩) (4 * k) C) (4 * k) (T.map u8v) := own_heap O2.out (by rw [hw3, setCells_other (by omega), heap_drew])
      have hB3 : Below w.heap.size w w3 := by rw [hw3]; exact below_setCells hB2.drew hsz _ _
      have c0 := cell_of_list g3 0
      have c1 := cell_of_list g3 1
      have c2 := cell_of_list g3 2
      simp only [List.getElem?_cons_zero, List.getElem?_cons_succ] at c0 c1 c2
      have O3 := Lib.hid hO3
      have B3 := Lib.hid hB3
      obtain ⟨a0, ha0⟩ : ∃ a, a = ch.getD 0 0 := ⟨_, rfl⟩
      obtain ⟨a1, ha1⟩ : ∃ a, a = ch.getD 1 0 := ⟨_, rfl⟩
      obtain ⟨a2, ha2⟩ : ∃ a, a = ch.getD 2 0 := ⟨_, rfl⟩
      rw [← ha0] at c0
      rw [← ha1] at c1
      rw [← ha2] at c2
      have hA : Dig.all24 ch = Dig.num3 a0 a1 a2 := by rw [Dig.all24_eq, ← ha0, ← ha1, ← ha2, Dig.num3_eq]
      have hA24 := Dig.num3_lt a0 a1 a2
      have HA := Lib.hid hA
      have HA24 := Lib.hid hA24
      clear hw3 g3 hO3 hB3 hB2 O2 G2 ht2 HQ HCL hns ha0 ha1 ha2 hA hA24
      go_wp2_with fail
      obtain ⟨A, hA⟩ : ∃ A, A = Dig.num3 a0 a1 a2 := ⟨_, rfl⟩
      have hA24 := HA24.out
      rw [← hA] at hA24 ⊢
      have HA2 := Lib.hid (HA.out.trans hA.symm)
      clear hA c0 c1 c2 HA HA24
      obtain ⟨m, hm⟩ : ∃ m, m = ch.length := ⟨_, rfl⟩
      rw [← hm] at hm1 hm3 ⊢
      have HM := Lib.hid hm
      clear hm
      go_loopw [3, 39] (fun v i wi => ∃ j : Nat, j ≤ 4 ∧ i = .int .i64 j ∧ v = .slice (some ⟨w.heap.size, 0, none⟩) (4 * k + j) C ∧
        wi.ownsRow w.heap.size 5 1 (.slice (some ⟨w.heap.size, 0, none⟩) (4 * k + j) C) (4 * k + j) ((T ++ (Dig.enc4 ch).take j).map u8v) ∧ Below w.heap.size w wi) (fun _ i _ => 4 - (intOf i).toNat)
      case atStart => exact ⟨0, by omega, rfl, rfl, by rw [List.take_zero, List.append_nil]; exact O3.out, B3.out⟩
      case round =>
        clear O3 B3
        obtain ⟨j, hj, rfl, rfl, hown, hB⟩ := hrel
        by_cases hlt4 : j < 4
        · have hsz3 := hB.size
          have hfit : 4 * k + j + 1 ≤ C := by have := HC.out; have := HN.out; omega
          have HO := Lib.hid hown
          have HB := Lib.hid hB
          clear hown hB
          by_cases hgt : m < j
          · go_wp2_with (at_builtin; refine wpList_append_fits _ rfl _ _ 57 rfl w.heap.size 5 i0 1 Try.underlying57 hi hz1 w.heap.size (4 * k + j) C _ rfl (HO.out.alloc _) ⟨wr.heap.size, 0, none⟩ 1 1 [.int .u8 61] rfl rfl (cell_one_new _ _ _) (by simp [Value.oneCell']) hfit ?_; intro w5 h5 hg5; go_frame)
            go_roundw
            case rel =>
              refine ⟨j + 1, by omega, by go_num, rfl, ?_, ?_⟩
              · have e2 : (T ++ (Dig.enc4 ch).take (j + 1)).map u8v = (T ++ (Dig.enc4 ch).take j).map u8v ++ [.int .u8 61] := by
                  rw [Dig.enc4_take_succ hlt4, Dig.four64_end (by rw [← HM.out]; exact hgt), ← List.append_assoc, List.map_append]; rfl
                rw [e2]; exact h5
              · exact (HB.out.alloc hsz3 _).grown hg5 (by simp; omega) (fun q hq => by cases hq; omega)
            case measure => simp [intOf]; omega
          · have hdig := Dig.four64_dig (l := ch) (i := j) (by rw [← HM.out]; exact hgt)
            rw [HA2.out] at hdig
            have HD := Lib.hid hdig
            clear hdig
            have e4 : (T ++ (Dig.enc4 ch).take (j + 1)).map u8v = (T ++ (Dig.enc4 ch).take j).map u8v ++ [.int .u8 (Dig.four64 ch j).toNat] := by
              rw [Dig.enc4_take_succ hlt4, ← List.append_assoc, List.map_append]; rfl
            have HE4 := Lib.hid e4
            clear e4
            have h4 : j = 0 ∨ j = 1 ∨ j = 2 ∨ j = 3 := by omega
            rcases h4 with rfl | rfl | rfl | rfl
            · go_wp2_with (at_builtin; refine wpList_append_fits _ rfl _ _ 57 rfl w.heap.size 5 i0 1 Try.underlying57 hi hz1 w.heap.size (4 * k) C _ rfl (HO.out.alloc _) ⟨wr.heap.size, 0, none⟩ 1 1 [.int .u8 (Dig.dig64 (A / 262144 % 64)).toNat] rfl rfl (cell_one_new _ _ _) (by simp [Value.oneCell']) hfit ?_; intro w5 h5 hg5; go_frame)
              go_roundw
              case rel =>
                refine ⟨1, by omega, rfl, rfl, ?_, (HB.out.alloc hsz3 _).grown hg5 (by simp; omega) (fun q hq => by cases hq; omega)⟩
                rw [HE4.out, show Dig.four64 ch 0 = Dig.dig64 (A / 262144 % 64) from HD.out.trans (by congr 2)]; exact h5
              case measure => simp [intOf]
            · go_wp2_with (at_builtin; refine wpList_append_fits _ rfl _ _ 57 rfl w.heap.size 5 i0 1 Try.underlying57 hi hz1 w.heap.size (4 * k + 1) C _ rfl (HO.out.alloc _) ⟨wr.heap.size, 0, none⟩ 1 1 [.int .u8 (Dig.dig64 (A / 4096 % 64)).toNat] rfl rfl (cell_one_new _ _ _) (by simp [Value.oneCell']) hfit ?_; intro w5 h5 hg5; go_frame)
              go_roundw
              case rel =>
                refine ⟨2, by omega, rfl, rfl, ?_, (HB.out.alloc hsz3 _).grown hg5 (by simp; omega) (fun q hq => by cases hq; omega)⟩
                rw [HE4.out, show Dig.four64 ch 1 = Dig.dig64 (A / 4096 % 64) from HD.out.trans (by congr 2)]; exact h5
              case measure => simp [intOf]
            · go_wp2_with (at_builtin; refine wpList_append_fits _ rfl _ _ 57 rfl w.heap.size 5 i0 1 Try.underlying57 hi hz1 w.heap.size (4 * k + 2) C _ rfl (HO.out.alloc _) ⟨wr.heap.size, 0, none⟩ 1 1 [.int .u8 (Dig.dig64 (A / 64 % 64)).toNat] rfl rfl (cell_one_new _ _ _) (by simp [Value.oneCell']) hfit ?_; intro w5 h5 hg5; go_frame)
              go_roundw
              case rel =>
                refine ⟨3, by omega, rfl, rfl, ?_, (HB.out.alloc hsz3 _).grown hg5 (by simp; omega) (fun q hq => by cases hq; omega)⟩
                rw [HE4.out, show Dig.four64 ch 2 = Dig.dig64 (A / 64 % 64) from HD.out.trans (by congr 2)]; exact h5
              case measure => simp [intOf]
            · go_wp2_with (at_builtin; refine wpList_append_fits _ rfl _ _ 57 rfl w.heap.size 5 i0 1 Try.underlying57 hi hz1 w.heap.size (4 * k + 3) C _ rfl (HO.out.alloc _) ⟨wr.heap.size, 0, none⟩ 1 1 [.int .u8 (Dig.dig64 (A % 64)).toNat] rfl rfl (cell_one_new _ _ _) (by simp [Value.oneCell']) hfit ?_; intro w5 h5 hg5; go_frame)
              go_roundw
              case rel =>
                refine ⟨4, by omega, rfl, rfl, ?_, (HB.out.alloc hsz3 _).grown hg5 (by simp; omega) (fun q hq => by cases hq; omega)⟩
                rw [HE4.out, show Dig.four64 ch 3 = Dig.dig64 (A % 64) from HD.out.trans (by congr 2; simp)]; exact h5
              case measure => simp [intOf]
        · obtain rfl : j = 4 := by omega
          go_wp2_with fail
          go_roundw
          case rel =>
            refine ⟨k + 1, T ++ Dig.enc4 ch, by have := HN.out; omega, by rw [List.length_append, HT.out, Dig.length_enc4]; omega, ?_, ?_, ?_, ?_, hB⟩
            · exact int64_congr (by have := HN.out; omega)
            · rw [show 4 * (k + 1) = 4 * k + 4 from by omega]
            · rw [HE.out, ← HN.out, Dig.enc_step (l := l.drop n) (by intro e; have := congrArg List.length e; rw [List.length_drop, HLEN.out, List.length_nil] at this; omega), ← HCH.out, List.drop_drop, List.append_assoc, show 3 * (k + 1) = n + 3 from by have := HN.out; omega]
            · rw [List.take_of_length_le (by rw [Dig.length_enc4]; omega)] at hown
              rw [show 4 * (k + 1) = 4 * k + 4 from by omega]; exact hown
          case measure => simp [intOf]; have := HN.out; omega
    · have hk4 : 4 * k = C := by have := HC.out; omega
      have hTl : T.length = C := by omega
      have hE2 : Dig.enc l = T := by
        rw [hE, List.drop_of_length_le (by rw [HLEN.out]; omega), Dig.enc_nil, List.append_nil]
      rw [hk4] at hown ⊢
      have HE := Lib.hid hE2
      have HO := Lib.hid hown
      have HB := Lib.hid hB
      have HTL := Lib.hid hTl
      clear hE hown hB hE2 hT hTl hk4
      go_wp2_with (refine wpList_bytes_string rfl 57 9 _ rfl 5 w.heap.size 0 C C rfl T HTL.out Try.underlying57 Try.underlying5 Try.underlying9 (range_of_own HO.out) ?_; go_frame)
      go_ret
      exact ⟨by rw [HE.out]; rfl, HB.out⟩
end Go.Proofs.Ytjalmmhbjilabaa
