/- The walk of the document's own text in base 64. -/
import Derived.Test.YtckfmkokdghinaaRHex
import Derived.Test.YtckfmkokdghinaaB64
namespace Go.Proofs.Ytckfmkokdghinaa
open Go.RowKit

/-- The first bytes of a list as one number. -/
def accTo (f : List UInt8) : Nat → Nat
  | 0 => 0
  | k + 1 => accTo f k * 256 + (f.getD k 0).toNat
theorem accTo_zero (f : List UInt8) : accTo f 0 = 0 := rfl
theorem accTo_succ (f : List UInt8) (k : Nat) : accTo f (k + 1) = accTo f k * 256 + (f.getD k 0).toNat := rfl
theorem accTo_three (f : List UInt8) : accTo f 3 = Dig.all24 f := by simp only [accTo, Dig.all24_eq]; omega
theorem accTo_lt (f : List UInt8) (k : Nat) : accTo f k < 256 ^ k := by
  induction k with
  | zero => simp [accTo]
  | succ k ih => have := (f.getD k 0).toNat_lt; rw [accTo_succ, Nat.pow_succ]; omega
attribute [irreducible] accTo
theorem own_keep {w w' : World} {B size : Nat} {e : TypeId} {v : Value} {n : Nat} {xs : List Value} (h : w.ownsRow B e size v n xs) (hk : ∀ g, v.ownBlock = some g → w'.heap[g]? = w.heap[g]?) : w'.ownsRow B e size v n xs := by
  refine ⟨h.1, ?_⟩
  rcases h.2 with h0 | ⟨g, cap, cur, h0, hB, hg, r⟩
  · exact .inl h0
  · exact .inr ⟨g, cap, cur, h0, hB, by rw [hk g (by rw [h0]; rfl)]; exact hg, r⟩
theorem enc4_three {l : List UInt8} {A : Nat} (hA : A = Dig.all24 l) (h : ¬ l.length < 3) : (Dig.enc4 l).map u8v = [Value.int .u8 (Dig.dig64 (A / 262144 % 64)).toNat, Value.int .u8 (Dig.dig64 (A / 4096 % 64)).toNat, Value.int .u8 (Dig.dig64 (A / 64 % 64)).toNat, Value.int .u8 (Dig.dig64 (A % 64)).toNat] := by
  unfold Dig.enc4
  rw [Dig.four64_dig (by omega), Dig.four64_dig (by omega), Dig.four64_dig (by omega), Dig.four64_dig h, ← hA]; simp [u8v]
theorem enc4_two {l : List UInt8} {A : Nat} (hA : A = Dig.all24 l) (h : l.length < 3) (h2 : ¬ l.length < 2) : (Dig.enc4 l).map u8v = [Value.int .u8 (Dig.dig64 (A / 262144 % 64)).toNat, Value.int .u8 (Dig.dig64 (A / 4096 % 64)).toNat, Value.int .u8 (Dig.dig64 (A / 64 % 64)).toNat, Value.int .u8 61] := by
  unfold Dig.enc4
  rw [Dig.four64_dig (by omega), Dig.four64_dig (by omega), Dig.four64_dig (by omega), Dig.four64_end h, ← hA]; simp [u8v]
theorem enc4_one {l : List UInt8} {A : Nat} (hA : A = Dig.all24 l) (h : l.length < 2) (h1 : ¬ l.length < 1) : (Dig.enc4 l).map u8v = [Value.int .u8 (Dig.dig64 (A / 262144 % 64)).toNat, Value.int .u8 (Dig.dig64 (A / 4096 % 64)).toNat, Value.int .u8 61, Value.int .u8 61] := by
  unfold Dig.enc4
  rw [Dig.four64_dig (by omega), Dig.four64_dig (by omega), Dig.four64_end (by omega), Dig.four64_end (by omega), ← hA]; simp [u8v]
theorem run_index_byte_add {P : Program} (w : World) (t : TypeId) (s : ByteArray) (k : IntKind) (n j : Nat) (h : P.underlying t = some .string) (hi : n + j < s.size) :
    (Instr.index t (.string s) (.int k ((n : Int) + (j : Int)))).run P w = .ok (.int .u8 ((strAt s (n + j)).toNat : Int)) w := run_index_byte w t s k (n + j) h hi
theorem tm_64 (A c : Nat) : ((A : Int) / (c : Int)).tmod 64 = (A : Int) / (c : Int) % 64 := Int.tmod_eq_emod_of_nonneg (Int.ediv_nonneg (by omega) (by omega))
theorem tm_0 (A : Nat) : (A : Int).tmod 64 = (A : Int) % 64 := Int.tmod_eq_emod_of_nonneg (by omega)
theorem tm_12 (A : Nat) : ((A : Int) / 4096).tmod 64 = (A : Int) / 4096 % 64 := tm_64 A 4096
theorem tm_6 (A : Nat) : ((A : Int) / 64).tmod 64 = (A : Int) / 64 % 64 := tm_64 A 64
theorem dig_index {P : Program} (w : World) (t : TypeId) (k : IntKind) (x : Nat) (i : Int) (hi : i = (x : Int)) (hx : x < 64) (h : P.underlying t = some .string) :
    (Instr.index t (.string tab64) (.int k i)).run P w = .ok (.int .u8 ((Dig.dig64 x).toNat : Int)) w := by
  subst hi
  rw [run_index_byte w t _ k _ h (by rw [tab64_size]; omega), strAt_eq, tab64_list]
  congr 3; unfold Dig.dig64; rfl
theorem dig_18 {P : Program} (w : World) (t : TypeId) (k : IntKind) (A : Nat) (hA : A < 16777216) (h : P.underlying t = some .string) :
    (Instr.index t (.string tab64) (.int k ((A : Int) / 262144))).run P w = .ok (.int .u8 ((Dig.dig64 (A / 262144 % 64)).toNat : Int)) w := dig_index w t k _ _ (by omega) (by omega) h
theorem dig_12 {P : Program} (w : World) (t : TypeId) (k : IntKind) (A : Nat) (h : P.underlying t = some .string) :
    (Instr.index t (.string tab64) (.int k ((A : Int) / 4096 % 64))).run P w = .ok (.int .u8 ((Dig.dig64 (A / 4096 % 64)).toNat : Int)) w := dig_index w t k _ _ (by omega) (by omega) h
theorem dig_6 {P : Program} (w : World) (t : TypeId) (k : IntKind) (A : Nat) (h : P.underlying t = some .string) :
    (Instr.index t (.string tab64) (.int k ((A : Int) / 64 % 64))).run P w = .ok (.int .u8 ((Dig.dig64 (A / 64 % 64)).toNat : Int)) w := dig_index w t k _ _ (by omega) (by omega) h
theorem dig_0 {P : Program} (w : World) (t : TypeId) (k : IntKind) (A : Nat) (h : P.underlying t = some .string) :
    (Instr.index t (.string tab64) (.int k ((A : Int) % 64))).run P w = .ok (.int .u8 ((Dig.dig64 (A % 64)).toNat : Int)) w := dig_index w t k _ _ (by omega) (by omega) h
attribute [local go_sem high] run_index_byte_add fold_tab64 tm_0 tm_12 tm_6 dig_18 dig_12 dig_6 dig_0

set_option maxRecDepth 100000 in
set_option maxHeartbeats 1000000 in
theorem rBase64_any (s : ByteArray) (hs : s.size ≤ 70368744177664) (w : World) :
    Calls Try.prog 27 #[.string s] w fun e w' => e = .returned (.string ⟨(Dig.enc s.data.toList).toArray⟩) ∧ Below w.heap.size w w' := by
  obtain ⟨i0, hi, hz0, hz1, hz2⟩ := info_parts infoByte
  obtain ⟨l, hl⟩ : ∃ l, l = s.data.toList := ⟨_, rfl⟩
  have hlen : l.length = s.size := by rw [hl]; exact size_toList s
  rw [← hl]
  have HL := Lib.hid hl
  have HLEN := Lib.hid hlen
  clear hl hlen
  go_enter Try.func27, Try.ntmps27
  go_wp2_with fail
  go_loopw [3, 4] (fun v i wr => ∃ (k : Nat) (T : List UInt8), 3 * k ≤ s.size + 2 ∧ T.length = 4 * k ∧ i = .int .i64 (3 * k : Nat) ∧ Dig.enc l = T ++ Dig.enc (l.drop (3 * k)) ∧
    wr.ownsRow w.heap.size 5 1 v (4 * k) (T.map u8v) ∧ Below w.heap.size w wr) (fun _ i _ => s.size + 2 - (intOf i).toNat)
  case atStart => exact ⟨0, [], by omega, rfl, rfl, rfl, World.ownsRow_nil _ _ _ _, Below.refl _ _⟩
  case round =>
    obtain ⟨k, T, hk, hT, rfl, hE, hown, hB⟩ := hrel
    by_cases hlt : 3 * k < s.size
    · have hsz := hB.size
      obtain ⟨n, hn⟩ : ∃ n, n = 3 * k := ⟨_, rfl⟩
      rw [← hn] at hlt ⊢
      obtain ⟨ch, hch⟩ : ∃ ch, ch = (l.drop n).take 3 := ⟨_, rfl⟩
      have HCH := Lib.hid hch
      have HN := Lib.hid hn
      have HE := Lib.hid hE
      have HT := Lib.hid hT
      have HO := Lib.hid hown
      have HB := Lib.hid hB
      clear hn hE hT hown hB hch
      go_wp2_with fail
      go_loopw [5, 6] (fun a i wi => ∃ j : Nat, j ≤ 3 ∧ i = .int .i64 j ∧ a = .int .i64 (accTo ch j : Nat) ∧ wr = wi) (fun _ i _ => 3 - (intOf i).toNat)
      case atStart => exact ⟨0, by omega, rfl, by rw [accTo_zero]; rfl, rfl⟩
      case round =>
        obtain ⟨j, hj, rfl, rfl, rfl⟩ := hrel
        have hacc := accTo_lt ch j
        have hs1 := accTo_succ ch j
        by_cases hlt3 : j < 3
        · have hA : accTo ch j < 65536 := Nat.lt_of_lt_of_le hacc (by match j, hlt3 with | 0, _ => decide | 1, _ => decide | 2, _ => decide)
          obtain ⟨A, hAe⟩ : ∃ A, A = accTo ch j := ⟨_, rfl⟩
          rw [← hAe] at hA hs1 ⊢
          clear hacc
          have HA := Lib.hid hAe
          have HS := Lib.hid hs1
          clear hAe hs1
          have hcl := ch.length
          have hg : ∀ c : UInt8, (n + j < s.size → c = strAt s (n + j)) → (¬ n + j < s.size → c = 0) → ch.getD j 0 = c := by
            intro c h1 h2
            rw [HCH.out]
            by_cases h : n + j < s.size
            · rw [h1 h, strAt_eq, ← HL.out]; simp [List.getD, List.getElem?_drop, hlt3]
            · rw [h2 h]; simp [List.getD, List.getElem?_drop, hlt3, List.getElem?_eq_none (show l.length ≤ n + j by rw [HLEN.out]; omega)]
          have HG := Lib.hid hg
          clear hg
          have hc8 := (strAt s (n + j)).toNat_lt
          by_cases hin : n + j < s.size
          · go_wp2_with fail
            go_roundw
            case rel => exact ⟨j + 1, by omega, by go_num, by rw [HS.out, HG.out _ (fun _ => rfl) (fun h => absurd hin h)]; go_num, trivial⟩
            case measure => simp [intOf]; omega
          · go_wp2_with fail
            go_roundw
            case rel => exact ⟨j + 1, by omega, by go_num, by rw [HS.out, HG.out 0 (fun h => absurd h hin) (fun _ => rfl)]; go_num, trivial⟩
            case measure => simp [intOf]; omega
        · obtain rfl : j = 3 := by omega
          have hA : accTo ch 3 < 16777216 := hacc
          have hA4 := accTo_three ch
          obtain ⟨A, hAe⟩ : ∃ A, A = accTo ch 3 := ⟨_, rfl⟩
          rw [← hAe] at hA hA4 ⊢
          clear hacc hs1
          have HA := Lib.hid hA4
          clear hAe hA4
          go_wp2_with fail
          go_region
          all_goals
            obtain ⟨w2, hw2⟩ : ∃ w2, w2 = (wr.alloc (.cells #[Value.int .u8 (Dig.dig64 (A / 262144 % 64)).toNat, Value.int .u8 (Dig.dig64 (A / 4096 % 64)).toNat, Value.int .u8 (Dig.dig64 (A / 64 % 64)).toNat, Value.int .u8 (Dig.dig64 (A % 64)).toNat] 5)).drew := ⟨_, rfl⟩
            rw [← hw2]
            have g2 : w2.heap[wr.heap.size]? = some (.cells [Value.int .u8 (Dig.dig64 (A / 262144 % 64)).toNat, Value.int .u8 (Dig.dig64 (A / 4096 % 64)).toNat, Value.int .u8 (Dig.dig64 (A / 64 % 64)).toNat, Value.int .u8 (Dig.dig64 (A % 64)).toNat].toArray 5 (0, 0)) := by rw [hw2]; exact heap_alloc_new wr _
            have hO2 : w2.ownsRow w.heap.size 5 1 u3 (4 * k) (T.map u8v) := by rw [hw2]; exact own_drew (HO.out.alloc _)
            have hB2 : Below w.heap.size w w2 := by rw [hw2]; exact (HB.out.alloc hsz _).drew
            have hcl : ch.length = min 3 (s.size - n) := by rw [HCH.out, List.length_take, List.length_drop, HLEN.out]
            have hne := fun g hg => Nat.ne_of_lt (HO.out.lt g hg).2
            have hm1 : 4 * k + 4 ≤ maxLen := by have := HN.out; unfold maxLen; omega
            have hm2 : (4 * k + 4) * 1 ≤ 140737488355328 := by have := HN.out; omega
            have hm3 : w.heap.size ≤ w2.heap.size := hB2.size
            have HCL := Lib.hid hcl
            have O2 := Lib.hid hO2
            have B2 := Lib.hid hB2
            have G2 := Lib.hid g2
            have HNE := Lib.hid hne
            clear hw2 hO2 hB2 hcl hne
            by_cases h3 : s.size - n < 3
            · have c3 : ((s.size : Int) - (n : Int)) < 3 := by omega
              have k3 := cell_of_list g2 3
              have f3 := free_of_list g2 3
              simp only [List.getElem?_cons_zero, List.getElem?_cons_succ] at k3
              have g3 : (w2.setCell ⟨wr.heap.size, 3, none⟩ (.int .u8 61)).heap[wr.heap.size]? = some (.cells [Value.int .u8 (Dig.dig64 (A / 262144 % 64)).toNat, Value.int .u8 (Dig.dig64 (A / 4096 % 64)).toNat, Value.int .u8 (Dig.dig64 (A / 64 % 64)).toNat, Value.int .u8 61].toArray 5 (0, 0)) := setCells_list [.int .u8 61] 3 _ w2 g2
              have hO3 : (w2.setCell ⟨wr.heap.size, 3, none⟩ (.int .u8 61)).ownsRow w.heap.size 5 1 u3 (4 * k) (T.map u8v) := own_keep O2.out (fun g hg => setCells_other (HNE.out g hg) [.int .u8 61] 3 w2)
              have hB3 : Below w.heap.size w (w2.setCell ⟨wr.heap.size, 3, none⟩ (.int .u8 61)) := below_setCells B2.out hsz 3 [.int .u8 61]
              have hm4 := hB3.size
              have O3 := Lib.hid hO3
              have B3 := Lib.hid hB3
              have G3 := Lib.hid g3
              by_cases h2 : s.size - n < 2
              · have c2 : ((s.size : Int) - (n : Int)) < 2 := by omega
                have k2 := cell_of_list g3 2
                have f2 := free_of_list g3 2
                simp only [List.getElem?_cons_zero, List.getElem?_cons_succ] at k2
                have g4 : ((w2.setCell ⟨wr.heap.size, 3, none⟩ (.int .u8 61)).setCell ⟨wr.heap.size, 2, none⟩ (.int .u8 61)).heap[wr.heap.size]? = some (.cells [Value.int .u8 (Dig.dig64 (A / 262144 % 64)).toNat, Value.int .u8 (Dig.dig64 (A / 4096 % 64)).toNat, Value.int .u8 61, Value.int .u8 61].toArray 5 (0, 0)) := setCells_list [.int .u8 61] 2 _ _ g3
                have hO4 : ((w2.setCell ⟨wr.heap.size, 3, none⟩ (.int .u8 61)).setCell ⟨wr.heap.size, 2, none⟩ (.int .u8 61)).ownsRow w.heap.size 5 1 u3 (4 * k) (T.map u8v) := own_keep O3.out (fun g hg => setCells_other (HNE.out g hg) [.int .u8 61] 2 _)
                have hB4 : Below w.heap.size w ((w2.setCell ⟨wr.heap.size, 3, none⟩ (.int .u8 61)).setCell ⟨wr.heap.size, 2, none⟩ (.int .u8 61)) := below_setCells B3.out hsz 2 [.int .u8 61]
                have hm5 := hB4.size
                have O4 := Lib.hid hO4
                have B4 := Lib.hid hB4
                have G4 := Lib.hid g4
                clear hO4 hB4 g4 hO3 hB3 g3 g2 h3 h2
                go_wp2_with (at_builtin; refine wpList_append_own _ rfl _ _ 57 rfl w.heap.size 5 i0 (.int .u8 0) 1 1 Try.underlying57 hi hz0 hz1 hz2 rfl (by decide) _ (4 * k) _ rfl O4.out ⟨wr.heap.size, 0, none⟩ 4 4 [Value.int .u8 (Dig.dig64 (A / 262144 % 64)).toNat, Value.int .u8 (Dig.dig64 (A / 4096 % 64)).toNat, Value.int .u8 61, Value.int .u8 61] rfl rfl (news_row G4.out) (by intro u hu; simp only [List.mem_cons, List.not_mem_nil, or_false] at hu; rcases hu with rfl | rfl | rfl | rfl <;> rfl) hm1 hm2 hm5 ?_; intro v5 w5 hO5 hg5 _)
                have O5 := Lib.hid hO5
                have G5 := Lib.hid hg5
                clear hO5 hg5
                go_roundw
                case rel =>
                  refine ⟨k + 1, T ++ Dig.enc4 ch, by have := HN.out; omega, by rw [List.length_append, HT.out, Dig.length_enc4]; omega, int64_congr (by have := HN.out; omega), ?_, ?_, B4.out.grown G5.out hm5 (fun q hq => (HO.out.lt q hq).1)⟩
                  · rw [HE.out, ← HN.out, Dig.enc_step (l := l.drop n) (by intro e; have := congrArg List.length e; rw [List.length_drop, HLEN.out, List.length_nil] at this; omega), ← HCH.out, List.drop_drop, List.append_assoc, show 3 * (k + 1) = n + 3 from by have := HN.out; omega]
                  · rw [List.map_append, enc4_one HA.out (by rw [HCL.out]; omega) (by rw [HCL.out]; omega), show 4 * (k + 1) = 4 * k + 4 from by omega]; exact O5.out
                case measure => simp [intOf]; omega
              · have c2 : ¬ ((s.size : Int) - (n : Int)) < 2 := by omega
                clear hO3 hB3 g3 g2
                go_wp2_with (at_builtin; refine wpList_append_own _ rfl _ _ 57 rfl w.heap.size 5 i0 (.int .u8 0) 1 1 Try.underlying57 hi hz0 hz1 hz2 rfl (by decide) _ (4 * k) _ rfl O3.out ⟨wr.heap.size, 0, none⟩ 4 4 [Value.int .u8 (Dig.dig64 (A / 262144 % 64)).toNat, Value.int .u8 (Dig.dig64 (A / 4096 % 64)).toNat, Value.int .u8 (Dig.dig64 (A / 64 % 64)).toNat, Value.int .u8 61] rfl rfl (news_row G3.out) (by intro u hu; simp only [List.mem_cons, List.not_mem_nil, or_false] at hu; rcases hu with rfl | rfl | rfl | rfl <;> rfl) hm1 hm2 hm4 ?_; intro v5 w5 hO5 hg5 _)
                have O5 := Lib.hid hO5
                have G5 := Lib.hid hg5
                clear hO5 hg5
                go_roundw
                case rel =>
                  refine ⟨k + 1, T ++ Dig.enc4 ch, by have := HN.out; omega, by rw [List.length_append, HT.out, Dig.length_enc4]; omega, int64_congr (by have := HN.out; omega), ?_, ?_, B3.out.grown G5.out hm4 (fun q hq => (HO.out.lt q hq).1)⟩
                  · rw [HE.out, ← HN.out, Dig.enc_step (l := l.drop n) (by intro e; have := congrArg List.length e; rw [List.length_drop, HLEN.out, List.length_nil] at this; omega), ← HCH.out, List.drop_drop, List.append_assoc, show 3 * (k + 1) = n + 3 from by have := HN.out; omega]
                  · rw [List.map_append, enc4_two HA.out (by rw [HCL.out]; omega) (by rw [HCL.out]; omega), show 4 * (k + 1) = 4 * k + 4 from by omega]; exact O5.out
                case measure => simp [intOf]; omega
            · have c3 : ¬ ((s.size : Int) - (n : Int)) < 3 := by omega
              have c2 : ¬ ((s.size : Int) - (n : Int)) < 2 := by omega
              clear g2
              go_wp2_with (at_builtin; refine wpList_append_own _ rfl _ _ 57 rfl w.heap.size 5 i0 (.int .u8 0) 1 1 Try.underlying57 hi hz0 hz1 hz2 rfl (by decide) _ (4 * k) _ rfl O2.out ⟨wr.heap.size, 0, none⟩ 4 4 [Value.int .u8 (Dig.dig64 (A / 262144 % 64)).toNat, Value.int .u8 (Dig.dig64 (A / 4096 % 64)).toNat, Value.int .u8 (Dig.dig64 (A / 64 % 64)).toNat, Value.int .u8 (Dig.dig64 (A % 64)).toNat] rfl rfl (news_row G2.out) (by intro u hu; simp only [List.mem_cons, List.not_mem_nil, or_false] at hu; rcases hu with rfl | rfl | rfl | rfl <;> rfl) hm1 hm2 hm3 ?_; intro v5 w5 hO5 hg5 _)
              have O5 := Lib.hid hO5
              have G5 := Lib.hid hg5
              clear hO5 hg5
              go_roundw
              case rel =>
                refine ⟨k + 1, T ++ Dig.enc4 ch, by have := HN.out; omega, by rw [List.length_append, HT.out, Dig.length_enc4]; omega, int64_congr (by have := HN.out; omega), ?_, ?_, B2.out.grown G5.out hm3 (fun q hq => (HO.out.lt q hq).1)⟩
                · rw [HE.out, ← HN.out, Dig.enc_step (l := l.drop n) (by intro e; have := congrArg List.length e; rw [List.length_drop, HLEN.out, List.length_nil] at this; omega), ← HCH.out, List.drop_drop, List.append_assoc, show 3 * (k + 1) = n + 3 from by have := HN.out; omega]
                · rw [List.map_append, enc4_three HA.out (by rw [HCL.out]; omega), show 4 * (k + 1) = 4 * k + 4 from by omega]; exact O5.out
              case measure => simp [intOf]; omega
    · have hTl : T.length = 4 * k := hT
      have hE2 : Dig.enc l = T := by
        rw [hE, List.drop_of_length_le (by rw [HLEN.out]; omega), Dig.enc_nil, List.append_nil]
      have HE := Lib.hid hE2
      have HO := Lib.hid hown
      have HB := Lib.hid hB
      have HTL := Lib.hid hTl
      clear hE hown hB hE2 hT hTl
      go_wp2_with (refine wpList_own_string rfl 57 9 _ rfl w.heap.size 5 _ (4 * k) rfl T HTL.out Try.underlying57 Try.underlying5 Try.underlying9 HO.out ?_; go_frame)
      go_ret
      exact ⟨by rw [HE.out]; rfl, HB.out⟩
end Go.Proofs.Ytckfmkokdghinaa
