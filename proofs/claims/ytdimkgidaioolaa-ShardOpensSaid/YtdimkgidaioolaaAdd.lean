/- The walk of what is told a sum, piece by piece: whatever takes the blocks in. -/
import Derived.Test.YtdimkgidaioolaaText2
namespace Go.Proofs.Ytdimkgidaioolaa
open Go.RowKit

theorem laid_mid (vs : List Value) : ∀ (A B C : List Value), B.length = vs.length → laid (A ++ (B ++ C)) A.length vs = A ++ (vs ++ C) := by
  induction vs with
  | nil => intro A B C h; obtain rfl : B = [] := List.eq_nil_of_length_eq_zero (by simpa using h); rfl
  | cons v r ih =>
    intro A B C h
    match B, h with
    | b :: B', h =>
      have := ih (A ++ [v]) B' C (by simpa using h)
      simp only [List.length_append, List.length_cons, List.length_nil, Nat.zero_add, List.append_assoc, List.cons_append, List.nil_append] at this
      rw [laid]
      refine Eq.trans ?_ (this.trans (by simp))
      congr 1
      simp
/-- The bytes 'bs' laid over 'rs' from 'at' on. -/
def over (rs : List UInt8) (i : Nat) (bs : List UInt8) : List UInt8 := rs.take i ++ (bs ++ rs.drop (i + bs.length))
theorem length_over {rs bs : List UInt8} {i n : Nat} (h : rs.length = n) (hi : i + bs.length ≤ n) : (over rs i bs).length = n := by
  simp [over]; omega
/-- The cells of what is kept of a text: how many bytes, those that fill no block yet, and what stands behind. -/
def tailCells (n : Nat) (rs : List UInt8) (R : List Value) : List Value := .int .i64 n :: (rs.map u8v ++ R)
theorem laid_tail {n i : Nat} {rs bs : List UInt8} {R : List Value} (hi : i + bs.length ≤ rs.length) :
    laid (tailCells n rs R) (1 + i) (bs.map u8v) = tailCells n (over rs i bs) R := by
  have h := laid_mid (bs.map u8v) (.int .i64 n :: (rs.take i).map u8v) (((rs.drop i).take bs.length).map u8v) ((rs.drop (i + bs.length)).map u8v ++ R) (by simp; omega)
  have e1 : (.int .i64 n :: (rs.take i).map u8v) ++ (((rs.drop i).take bs.length).map u8v ++ ((rs.drop (i + bs.length)).map u8v ++ R)) = tailCells n rs R := by
    rw [tailCells, List.cons_append]
    congr 1
    rw [← List.append_assoc, ← List.append_assoc, ← List.map_append, ← List.map_append]
    congr 2
    rw [List.append_assoc, show rs.drop (i + bs.length) = (rs.drop i).drop bs.length from by rw [List.drop_drop], List.take_append_drop, List.take_append_drop]
  have e2 : (Value.int .i64 n :: (rs.take i).map u8v).length = 1 + i := by simp; omega
  rw [e1, e2] at h
  rw [h, tailCells, over, List.cons_append]
  simp
theorem set_tail (n m : Nat) (rs : List UInt8) (R : List Value) : (tailCells n rs R).set 0 (.int .i64 m) = tailCells m rs R := rfl

/-- What is kept of a text 'told' in block 'g': its size, its last bytes; 'I' says what has been made of its whole blocks. -/
def Told (g : Nat) (T : TypeId) (I : List UInt8 → List Value → World → Prop) (told : List UInt8) (w : World) : Prop :=
  ∃ (rs : List UInt8) (R : List Value), rs.length = 64 ∧ rs.take (told.length % 64) = told.drop (told.length / 64 * 64) ∧
    w.heap[g]? = some (.cells (tailCells told.length rs R).toArray T (0, 0)) ∧ I (told.take (told.length / 64 * 64)) R w

/-- How what takes a block in is called, and what it does. -/
structure Takes (f : FuncId) (first cap : Array Value) (g : Nat) (T : TypeId) (I : List UInt8 → List Value → World → Prop) (ws : List Nat) : Prop where
  enters : ∀ args w, (callFunc f args).run Try.prog w = .ok (.enter f args) w
  mem : g ∈ ws
  stays : ∀ l R w w', I l R w → (∀ k, k ≠ g → w'.heap[k]? = w.heap[k]?) → I l R w'
  call : ∀ (n : Nat) (l bs : List UInt8) (R : List Value) (w : World), l.length % 64 = 0 → bs.length = 64 → w.heap[g]? = some (.cells (tailCells n bs R).toArray T (0, 0)) → I l R w →
    Calls Try.prog f (first.push (.pointer (some ⟨g, 1, none⟩)) ++ cap) w fun e w' =>
      e = .returned (.tuple #[]) ∧ (∃ R', w'.heap[g]? = some (.cells (tailCells n bs R').toArray T (0, 0)) ∧ I (l ++ bs) R' w') ∧ Kept w.heap.size ws w w'

theorem add_copy {wr : World} {g n m : Nat} {T : TypeId} {rs : List UInt8} {R : List Value} {q : ByteArray} (hg : wr.heap[g]? = some (.cells (tailCells n rs R).toArray T (0, 0))) (hrs : rs.length = 64)
    (hm1 : m ≤ q.size) (hm2 : m ≤ 64 - n % 64) :
    (wr.setCells g (1 + n % 64) (strCells q m)).heap[g]? = some (.cells (tailCells n (over rs (n % 64) (q.data.toList.take m)) R).toArray T (0, 0)) := by
  have hl : (q.data.toList.take m).length = m := by rw [List.length_take, size_toList]; omega
  rw [setCells_list _ _ _ _ hg, strCells, laid_tail (by omega)]
theorem extract_rest (q : ByteArray) (m : Nat) : (q.extract m q.size).data.toList = q.data.toList.drop m := by
  have : q.data.toList.length = q.size := size_toList q
  simp [ByteArray.data_extract, Array.toList_extract, List.take_of_length_le, this]
theorem over_take {rs b : List UInt8} {i : Nat} (hi : i ≤ rs.length) : (over rs i b).take (i + b.length) = rs.take i ++ b := by
  have h1 : (rs.take i).length = i := by simp; omega
  rw [over, ← List.append_assoc, List.take_append_of_le_length (by simp; omega), List.take_of_length_le (by simp; omega)]
theorem told_part {g n : Nat} {T : TypeId} {I : List UInt8 → List Value → World → Prop} {l b rs : List UInt8} {R : List Value} {w : World} (hn : n = l.length) (hb : n % 64 + b.length < 64) (hrs : rs.length = 64)
    (ht : rs.take (n % 64) = l.drop (n / 64 * 64)) (hg : w.heap[g]? = some (.cells (tailCells (n + b.length) (over rs (n % 64) b) R).toArray T (0, 0))) (hI : I (l.take (n / 64 * 64)) R w) : Told g T I (l ++ b) w := by
  have e1 : (l ++ b).length = n + b.length := by rw [List.length_append, hn]
  have e2 : (n + b.length) / 64 = n / 64 := by omega
  have e3 : (n + b.length) % 64 = n % 64 + b.length := by omega
  refine ⟨over rs (n % 64) b, R, length_over hrs (by omega), ?_, by rw [e1]; exact hg, ?_⟩
  · rw [e1, e2, e3, over_take (by omega), ht, List.drop_append_of_le_length (by omega)]
  · rw [e1, e2, List.take_append_of_le_length (by omega)]; exact hI
theorem told_whole {g n : Nat} {T : TypeId} {I : List UInt8 → List Value → World → Prop} {l b rs : List UInt8} {R : List Value} {w : World} (hn : n = l.length) (hb : n % 64 + b.length = 64) (hrs : rs.length = 64)
    (ht : rs.take (n % 64) = l.drop (n / 64 * 64)) (hg : w.heap[g]? = some (.cells (tailCells (n + b.length) (over rs (n % 64) b) R).toArray T (0, 0))) (hI : I (l.take (n / 64 * 64) ++ over rs (n % 64) b) R w) : Told g T I (l ++ b) w := by
  have e1 : (l ++ b).length = n + b.length := by rw [List.length_append, hn]
  have e2 : (n + b.length) / 64 * 64 = n + b.length := by omega
  have e3 : (n + b.length) % 64 = 0 := by omega
  have e4 : l.take (n / 64 * 64) ++ over rs (n % 64) b = l ++ b := by
    rw [over, ht, show rs.drop (n % 64 + b.length) = [] from List.drop_eq_nil_of_le (by omega), List.append_nil, ← List.append_assoc, List.take_append_drop]
  refine ⟨over rs (n % 64) b, R, length_over hrs (by omega), ?_, by rw [e1]; exact hg, ?_⟩
  · rw [e1, e2, e3, List.take_zero, List.drop_eq_nil_of_le (by omega)]
  · rw [e1, e2, List.take_of_length_le (by omega), ← e4]; exact hI

def strSize : Value → Nat | .string q => q.size | _ => 0

set_option maxRecDepth 100000 in
set_option maxHeartbeats 1000000 in
theorem add_any (f : FuncId) (first cap : Array Value) (g : Nat) (T : TypeId) (I : List UInt8 → List Value → World → Prop) (ws : List Nat) (hT : Takes f first cap g T I ws)
    (told : List UInt8) (s : ByteArray) (hbig : told.length + s.size ≤ 1000000000000000) (w : World) (hI : Told g T I told w) :
    Calls Try.prog 48 #[.pointer (some ⟨g, 0, none⟩), .string s, .func (.func f) first cap] w fun e w' =>
      e = .returned (.tuple #[]) ∧ Told g T I (told ++ s.data.toList) w' ∧ Kept w.heap.size ws w w' := by
  have HTk := Lib.hid hT
  clear hT
  go_enter Try.func48, Try.ntmps48
  go_wp2
  go_loopw [1] (fun x wr => ∃ (q : ByteArray) (l : List UInt8), x = .string q ∧ l ++ q.data.toList = told ++ s.data.toList ∧ Told g T I l wr ∧ Kept w.heap.size ws w wr) (fun x _ => strSize x)
  case atStart => exact ⟨s, told, rfl, rfl, hI, Kept.refl _ _ _⟩
  case round =>
    obtain ⟨q, l, rfl, hl, hI, hK⟩ := hrel
    have hlen : l.length + q.size = told.length + s.size := by
      have := congrArg List.length hl
      simpa [size_toList] using this
    by_cases hq : 0 < q.size
    · obtain ⟨rs, R, hrs, htail, hg, hi⟩ := hI
      have cN : wr.cell? ⟨g, 0, none⟩ = some (.int .i64 l.length) := by rw [cell_of_list hg]; rfl
      obtain ⟨n, hn⟩ : ∃ n, n = l.length := ⟨_, rfl⟩
      rw [← hn] at cN hg htail hi
      have hnb : n + q.size ≤ 1000000000000000 := by omega
      have ht1 : wr.there g (1 + n % 64) (Nat.min q.size (64 - n % 64)) := there_of_list hg (by have := Nat.min_le_right q.size (64 - n % 64); simp only [tailCells, List.length_cons, List.length_append, List.length_map, hrs]; show 1 + n % 64 + Nat.min _ _ ≤ _; have e : Nat.min q.size (64 - n % 64) ≤ 64 - n % 64 := this; omega)
      obtain ⟨m, hm⟩ : ∃ m, m = Nat.min q.size (64 - n % 64) := ⟨_, rfl⟩
      rw [← hm] at ht1
      have hm1 : m ≤ q.size := by rw [hm]; exact Nat.min_le_left _ _
      have hm2 : m ≤ 64 - n % 64 := by rw [hm]; exact Nat.min_le_right _ _
      have hm0 : 0 < m := by rw [hm]; exact Nat.lt_min.2 ⟨hq, by omega⟩
      have hm3 : m = q.size ∨ n % 64 + m = 64 := by
        rw [hm]; rcases Nat.le_total q.size (64 - n % 64) with h | h
        · left; exact Nat.min_eq_left h
        · right; rw [show Nat.min q.size (64 - n % 64) = 64 - n % 64 from Nat.min_eq_right h]; omega
      have H3 := Lib.hid hm3
      have HM := Lib.hid hm
      have HN := Lib.hid hn
      have HG := Lib.hid hg
      have HT := Lib.hid htail
      have HL := Lib.hid hl
      have HE := Lib.hid hlen
      have HRS := Lib.hid hrs
      have HK := Lib.hid hK
      have HI := Lib.hid hi
      clear hm3 hm hn hg htail hl hlen hrs hK hi
      by_cases hfull : n % 64 + m = 64
      · have hfb : (((n : Int) % 64 + (m : Int)) == 64) = true := by rw [beq_iff_eq]; omega
        have hE := HTk.out.enters
        have HF := Lib.hid hfull
        clear hfull
        go_wp2_with (first | (refine wpList_slice_from rfl 101 (.tmp 18) (.tmp 19) rfl 64 5 Try.underlying101 (by kernel_rfl) g 1 (n % 64) rfl rfl (by omega) ?_; go_frame) | (refine wpList_copy_str rfl (.tmp 20) (.tmp 21) 35 9 rfl 5 Try.underlying35 (by kernel_rfl) g (1 + n % 64) (64 - n % 64) (64 - n % 64) q rfl rfl (by rw [← HM.out]; exact ht1) ?_; rw [← HM.out]; go_frame; simp only [goInt]; have g5 := add_copy HG.out HRS.out hm1 hm2; have c5 := cell_of_list g5 0; have f5 := free_of_list g5 0; have G5 := Lib.hid g5; clear g5; simp only [tailCells, List.getElem?_cons_zero] at c5))
        have hlm : (q.data.toList.take m).length = m := by rw [List.length_take, size_toList]; omega
        have g6 := set_list G5.out 0 (.int .i64 ((n : Int) + m))
        have hcells : (tailCells n (over rs (n % 64) (q.data.toList.take m)) R).set 0 (.int .i64 ((n : Int) + m)) = tailCells (n + m) (over rs (n % 64) (q.data.toList.take m)) R := by
          rw [← set_tail n (n + m)]; congr 2
        rw [hcells] at g6
        have hi6 : I (l.take (n / 64 * 64)) R ((wr.setCells g (1 + n % 64) (strCells q m)).setCell ⟨g, 0, none⟩ (.int .i64 ((n : Int) + m))) :=
          HTk.out.stays _ _ _ _ HI.out (fun k hk => by rw [heap_setCell_other _ _ _ _ hk, setCells_other hk])
        refine (HTk.out.call (n + m) (l.take (n / 64 * 64)) (over rs (n % 64) (q.data.toList.take m)) R _ ?_ ?_ g6 hi6).mono ?_
        · rw [List.length_take, ← HN.out]; omega
        · exact length_over HRS.out (by rw [hlm]; omega)
        · rintro e w7 ⟨rfl, ⟨R', hg7, hi7⟩, hk7⟩
          have hmem := HTk.out.mem
          have G7 := Lib.hid hg7
          have I7 := Lib.hid hi7
          have K7 := Lib.hid hk7
          have HC6 := Lib.hid hmem
          clear g6 hi6 hcells hg7 hi7 hk7 hE hmem
          go_wp2
          go_roundw
          case rel =>
            refine ⟨q.extract m q.size, l ++ q.data.toList.take m, rfl, ?_, told_whole HN.out (by rw [hlm]; exact HF.out) HRS.out HT.out (by rw [hlm]; exact G7.out) I7.out, ?_⟩
            · rw [extract_rest, List.append_assoc, List.take_append_drop]; exact HL.out
            · refine (HK.out.trans (((Kept.refl _ _ _).setCells (Or.inl HC6.out) _ _).setCell (p := ⟨g, 0, none⟩) (Or.inl HC6.out) _)).trans (K7.out.mono ?_ (fun _ _ h => h))
              rw [World.size_setCell, setCells_size]; exact HK.out.size
          case measure => simp [strSize]; omega
      · have hfb : (((n : Int) % 64 + (m : Int)) == 64) = false := by rw [beq_eq_false_iff_ne]; omega
        go_wp2_with (first | (refine wpList_slice_from rfl 101 (.tmp 18) (.tmp 19) rfl 64 5 Try.underlying101 (by kernel_rfl) g 1 (n % 64) rfl rfl (by omega) ?_; go_frame) | (refine wpList_copy_str rfl (.tmp 20) (.tmp 21) 35 9 rfl 5 Try.underlying35 (by kernel_rfl) g (1 + n % 64) (64 - n % 64) (64 - n % 64) q rfl rfl (by rw [← HM.out]; exact ht1) ?_; rw [← HM.out]; go_frame; simp only [goInt]; have g5 := add_copy HG.out HRS.out hm1 hm2; have c5 := cell_of_list g5 0; have f5 := free_of_list g5 0; have G5 := Lib.hid g5; clear g5; simp only [tailCells, List.getElem?_cons_zero] at c5))
        go_roundw
        case rel =>
          have hlm : (q.data.toList.take m).length = m := by rw [List.length_take, size_toList]; omega
          have g6 := set_list G5.out 0 (.int .i64 ((n : Int) + m))
          have hcells : (tailCells n (over rs (n % 64) (q.data.toList.take m)) R).set 0 (.int .i64 ((n : Int) + m)) = tailCells (n + m) (over rs (n % 64) (q.data.toList.take m)) R := by
            rw [← set_tail n (n + m)]; congr 2
          rw [hcells] at g6
          refine ⟨q.extract m q.size, l ++ q.data.toList.take m, rfl, ?_, told_part HN.out (by rw [hlm]; omega) HRS.out HT.out (by rw [hlm]; exact g6) (HTk.out.stays _ _ _ _ HI.out (fun k hk => by rw [heap_setCell_other _ _ _ _ hk, setCells_other hk])), ?_⟩
          · rw [extract_rest, List.append_assoc, List.take_append_drop]; exact HL.out
          · exact (HK.out.trans (((Kept.refl _ _ _).setCells (Or.inl HTk.out.mem) _ _).setCell (p := ⟨g, 0, none⟩) (Or.inl HTk.out.mem) _))
        case measure => simp [strSize]; omega
    · have HL := Lib.hid hl
      have HI := Lib.hid hI
      have HK := Lib.hid hK
      clear hl hlen hI hK
      have hq0 : q.data.toList = [] := by
        apply List.eq_nil_of_length_eq_zero; rw [size_toList]; omega
      have HQ := Lib.hid hq0
      clear hq0
      go_wp2
      go_end0
      refine ⟨rfl, ?_, HK.out⟩
      rw [← HL.out, HQ.out, List.append_nil]; exact HI.out
end Go.Proofs.Ytdimkgidaioolaa
