/- Lists of texts as values; the walks of fit and packed. -/
import Derived.Test.YtmobjpandmdmdaaGreatDoorJFind
namespace Go.Proofs.YtmobjpandmdmdaaGreatDoor
open Go.RowKit

/-- A list of texts. -/
def Texts (v : Value) (l : List (List UInt8)) (w : World) : Prop :=
  (v = .slice none 0 0 ∧ l = []) ∨ ∃ g off cap, v = .slice (some ⟨g, off, none⟩) l.length cap ∧ g < w.heap.size ∧ ∀ i, i < l.length → w.cell? ⟨g, off + i, none⟩ = some (strv (l.getD i []))
theorem Texts.of_own {w : World} {B : Nat} {v : Value} {l : List (List UInt8)} (h : w.ownsRow B 9 1 v l.length (l.map strv)) : Texts v l w := by
  rcases h.2 with ⟨hv, h0⟩ | ⟨g, cap, cur, hv, _, hg, _⟩
  · exact Or.inl ⟨hv, List.length_eq_zero_iff.1 h0⟩
  · refine Or.inr ⟨g, 0, cap, hv, lt_of_heap hg, fun i hi => ?_⟩
    subst hv
    rw [Nat.zero_add, h.cellAt i (by omega), List.getElem?_map, List.getD, List.getElem?_eq_getElem hi]; rfl
theorem Texts.of_cells {w : World} {g : Nat} {l : List (List UInt8)} {fr : Nat × Nat} (h : w.heap[g]? = some (.cells (l.map strv).toArray 9 fr)) (cap : Nat) : Texts (.slice (some ⟨g, 0, none⟩) l.length cap) l w :=
  Or.inr ⟨g, 0, cap, rfl, lt_of_heap h, fun i hi => by rw [Nat.zero_add, cell_of_list h, List.getElem?_map, List.getD, List.getElem?_eq_getElem hi]; rfl⟩
theorem Texts.nil (w : World) : Texts (.slice none 0 0) [] w := Or.inl ⟨rfl, rfl⟩
/-- The block that they lie in. -/
def textsBlock : Value → Option Nat
  | .slice (some a) _ _ => some a.block
  | _ => none
theorem Texts.keep {v : Value} {l : List (List UInt8)} {w w' : World} (h : Texts v l w) (hz : w.heap.size ≤ w'.heap.size) (hk : ∀ g, textsBlock v = some g → w'.heap[g]? = w.heap[g]?) : Texts v l w' := by
  rcases h with h | ⟨g, off, cap, rfl, hg, hc⟩
  · exact Or.inl h
  · exact Or.inr ⟨g, off, cap, rfl, by omega, fun i hi => by rw [World.cell?_of_block (w := w) (hk g rfl)]; exact hc i hi⟩
theorem Texts.lt {v : Value} {l : List (List UInt8)} {w : World} (h : Texts v l w) {g : Nat} (hg : textsBlock v = some g) : g < w.heap.size := by
  rcases h with ⟨rfl, _⟩ | ⟨g', off, cap, rfl, h1, _⟩
  · cases hg
  · injection hg with hg; subst hg; exact h1
theorem Texts.below {v : Value} {l : List (List UInt8)} {w w' : World} (h : Texts v l w) {B : Nat} (hB : w.heap.size ≤ B) (hb : Below B w w') : Texts v l w' :=
  h.keep hb.size (fun g hg => hb.block g (by have := h.lt hg; omega))
theorem Texts.slice {v : Value} {l : List (List UInt8)} {w : World} (h : Texts v l w) : ∃ b cap, v = .slice b l.length cap := by
  rcases h with ⟨rfl, rfl⟩ | ⟨g, off, cap, rfl, _⟩
  · exact ⟨none, 0, rfl⟩
  · exact ⟨_, cap, rfl⟩
theorem Jfault_any (c : Int) (w : World) : Calls Tryz.prog 44 #[.int .i64 c] w fun e w' => e = .returned (.iface 82 (.pointer (some ⟨w.heap.size, 0, none⟩))) ∧ FaultAt w.heap.size c 0 w' ∧ Below w.heap.size w w' := by
  go_enter Tryz.func44, Tryz.ntmps44
  go_wp2
  go_ret
  exact ⟨rfl, heap_alloc_new _ _, (Below.refl _ _).alloc (Nat.le_refl _) _⟩
theorem Jfault_is (c : Int) (w : World) : Calls Tryz.prog 44 #[.int .i64 c] w (Refused c 0 id w) := by
  refine (Jfault_any c w).mono ?_
  rintro e w' ⟨rfl, h1, h2⟩
  exact ⟨_, Nat.le_refl _, rfl, h1, h2⟩
theorem secs_eq (p : List UInt8) : secs p = (p.length + 87) / 64 := by unfold secs; rfl
theorem secsAll_bound (l : List (List UInt8)) (h : ∀ p ∈ l, p.length ≤ 60000) (k : Nat) (hk : l.length ≤ k) : secsAll l ≤ 939 * k := by
  induction l generalizing k with
  | nil => rw [secsAll_nil]; omega
  | cons p l ih =>
    rw [List.length_cons] at hk
    have h1 := ih (fun q hq => h q (List.mem_cons_of_mem _ hq)) (k - 1) (by omega)
    have h2 := h p (List.mem_cons_self ..)
    rw [secsAll_cons, secs_eq]
    omega
/-- What fit answers of payloads of which none is too long. -/
def FitPost (room : Nat) (l : List (List UInt8)) (w : World) (e : Ending) (w' : World) : Prop :=
  (secsAll l ≤ room ∧ e = .returned .nilIface ∧ Below w.heap.size w w') ∨ (room < secsAll l ∧ Refused 12 0 id w e w')
set_option maxRecDepth 100000 in
set_option maxHeartbeats 2000000 in
theorem fit_is (room : Nat) (v : Value) (l : List (List UInt8)) (hl : ∀ p ∈ l, p.length ≤ 60000) (hn : l.length ≤ 1000000) (w : World) (h : Texts v l w) :
    Calls Tryz.prog 45 #[.int .i64 room, v] w (FitPost room l w) := by
  obtain ⟨b0, cap0, rfl⟩ := h.slice
  have H := Lib.hid h
  have HL := Lib.hid hl
  clear h hl
  go_enter Tryz.func45, Tryz.ntmps45
  go_wp2_with fail
  go_loopw [5, 10] (fun sv iv wr => ∃ k : Nat, k ≤ l.length ∧ iv = .int .i64 k ∧ sv = .int .i64 (secsAll (l.take k)) ∧ wr = w) (fun _ iv _ => l.length - (intOf iv).toNat)
  case atStart => exact ⟨0, by omega, rfl, by rw [List.take_zero, secsAll_nil]; rfl, rfl⟩
  case round =>
    obtain ⟨k, hk, rfl, rfl, rfl⟩ := hrel
    have hbound : secsAll (l.take k) ≤ 939 * k := secsAll_bound _ (fun p hp => HL.out p (List.mem_of_mem_take hp)) k (by rw [List.length_take]; omega)
    by_cases hlt : k < l.length
    · rcases H.out with ⟨hv, h0⟩ | ⟨g, off, cap, hv, hg, hc⟩
      · rw [h0] at hlt; simp at hlt
      injection hv with hv1 _ hv3
      subst hv1
      have c0 := hc k hlt
      obtain ⟨x, hx⟩ : ∃ x, x = l.getD k [] := ⟨_, rfl⟩
      rw [← hx] at c0
      unfold strv at c0
      have hxm : x.length ≤ 60000 := HL.out x (by rw [hx, List.getD, List.getElem?_eq_getElem hlt]; exact List.getElem_mem _)
      have hsu := secsAll_take_succ hlt
      rw [← hx] at hsu
      obtain ⟨M, hM⟩ : ∃ M, M = secsAll (l.take k) := ⟨_, rfl⟩
      rw [← hM] at hsu hbound ⊢
      have hq : (bs x).size = x.length := bs_size x
      have hd : (24 + (x.length : Int) + 64 - 1) / 64 = (secs x : Int) := by rw [secs_eq]; omega
      have hsx : secs x ≤ 939 := by rw [secs_eq]; omega
      have HSU := Lib.hid hsu
      clear hx hsu hM hc
      go_wp2_with fail
      go_roundw
      case rel => exact ⟨k + 1, by omega, by go_num, by rw [HSU.out]; go_num, trivial⟩
      case measure => simp [intOf]; omega
    · have hkl : k = l.length := by omega
      rw [hkl, List.take_length] at hbound ⊢
      by_cases hr : secsAll l ≤ room
      · go_wp2_with fail
        go_ret
        exact Or.inl ⟨hr, rfl, Below.refl _ _⟩
      · go_wp2_with (go_at_call 44; refine (Jfault_is 12 _).mono ?_; rintro e w' ⟨g, hg, rfl, hf, hb⟩; have HFA := Lib.hid hf; have HB := Lib.hid hb; clear hf hb)
        go_ret
        exact Or.inr ⟨by omega, g, hg, rfl, HFA.out, HB.out⟩
set_option maxRecDepth 100000 in
set_option maxHeartbeats 2000000 in
theorem packed_is (e n : Nat) (v : Value) (l : List (List UInt8)) (he : e ≤ 4611686018427387904) (hn : n + l.length ≤ 4000000000) (hl : ∀ p ∈ l, p.length ≤ 60000) (hs : secsAll l ≤ 1000000) (w : World) (h : Texts v l w) :
    Calls Tryz.prog 71 #[.int .i64 e, .int .i64 n, v] w fun r w' => r = .returned (.tuple #[.string (bs (packs e n l)), .nilIface]) ∧ Below w.heap.size w w' := by
  obtain ⟨b0, cap0, rfl⟩ := h.slice
  have H := Lib.hid h
  have HL := Lib.hid hl
  have hll := length_le_secsAll l
  clear h hl
  go_enter Tryz.func71, Tryz.ntmps71
  go_wp2_with (refine wpList_alloc rfl 130 rfl _ allocBldr ?_; go_frame)
  obtain ⟨w1, hw1⟩ : ∃ x, x = w.alloc (.cells [Value.pointer none, .slice none 0 0].toArray 130) := ⟨_, rfl⟩
  rw [← hw1]
  have hB1 : Bldr w.heap.size [] w1 := by rw [hw1]; exact Bldr.fresh (heap_alloc_new _ _)
  have hU1 : Below w.heap.size w w1 := by rw [hw1]; exact (Below.refl _ _).alloc (Nat.le_refl _) _
  clear hw1
  go_loopw [15] (fun iv wr => ∃ k : Nat, k ≤ l.length ∧ iv = .int .i64 k ∧ Bldr w.heap.size (packs e n (l.take k)) wr ∧ Below w.heap.size w wr) (fun iv _ => l.length - (intOf iv).toNat)
  case atStart => exact ⟨0, by omega, rfl, by rw [List.take_zero, packs_nil]; exact hB1, hU1⟩
  case round =>
    clear hB1 hU1
    obtain ⟨k, hk, rfl, hB, hU⟩ := hrel
    by_cases hlt : k < l.length
    · rcases H.out with ⟨hv, h0⟩ | ⟨g, off, cap, hv, hg, hc⟩
      · rw [h0] at hlt; simp at hlt
      injection hv with hv1 _ hv3
      subst hv1 hv3
      have c0 := (hU.cell (p := ⟨g, off + k, none⟩) hg).trans (hc k hlt)
      obtain ⟨x, hx⟩ : ∃ x, x = l.getD k [] := ⟨_, rfl⟩
      rw [← hx] at c0
      unfold strv at c0
      have hxm : x.length ≤ 60000 := HL.out x (by rw [hx, List.getD, List.getElem?_eq_getElem hlt]; exact List.getElem_mem _)
      have htk := take_packs (e := e) (n := n) hlt
      rw [← hx] at htk
      obtain ⟨m, hm⟩ : ∃ m, m = n + k := ⟨_, rfl⟩
      rw [← hm] at htk
      have EM := Lib.hid (show (n : Int) + (k : Int) = (m : Int) by omega)
      have CP := Lib.hid (fun v : World => Pack_ok e m (bs x) he (by omega) (by rw [bs_size]; exact hxm) v)
      rw [bs_list] at CP
      have hlenp : (packs e n (l.take k)).length ≤ 64000000 := by rw [length_packs]; have := secsAll_take (ps := l) k; omega
      have hlenr : (bs (Fr.record e m x)).size ≤ 60087 := by rw [bs_size, Fr.length_record]; have := Fr.whole_le x.length; omega
      have HTK := Lib.hid htk
      have HB := Lib.hid hB
      have HU := Lib.hid hU
      have HLP := Lib.hid hlenp
      have HLR := Lib.hid hlenr
      have hsz := hU.size
      clear hx htk hB hU hc hm hlenp hlenr
      go_wp2_with (first | (go_at_call 83; rw [EM.out]; refine (CP.out _).mono ?_; rintro r w2 ⟨rfl, hb⟩; have HB2 := Lib.hid (HB.out.below hb); have HU2 := Lib.hid (HU.out.trans (hb.mono HU.out.size)); clear hb) | (go_at_call 76; refine (Put_any w.heap.size _ _ _ HB2.out (by have := HLP.out; have := HLR.out; omega)).mono ?_; rintro r w3 ⟨rfl, hb3, hu3⟩; have HB3 := Lib.hid hb3; have HU3 := Lib.hid (HU2.out.trans hu3); clear hb3 hu3) | fail)
      go_roundw
      case rel => exact ⟨k + 1, by omega, by go_num, by rw [HTK.out]; have := HB3.out; rw [bs_list] at this; exact Bldr.of_built this, HU3.out⟩
      case measure => simp [intOf]; omega
    · have hkl : k = l.length := by omega
      rw [hkl, List.take_length] at hB
      have HB := Lib.hid hB
      have HU := Lib.hid hU
      clear hB hU
      go_wp2_with fail
      refine (Told_any _ _ _ HB.out).mono ?_
      rintro r w2 ⟨rfl, hb2⟩
      have HU2 := Lib.hid (HU.out.trans hb2)
      clear hb2
      go_wp2_with fail
      go_ret2
      exact ⟨by rw [bs_eq]; rfl, HU2.out⟩
/-- A text of whole sectors, taken apart. -/
theorem chop (k : Nat) : ∀ l : List UInt8, l.length = 64 * k → ∃ ss : List (List UInt8), Wide ss ∧ ss.length = k ∧ ss.flatten = l := by
  induction k with
  | zero => intro l h; exact ⟨[], fun s hs => by simp at hs, rfl, (List.length_eq_zero_iff.1 (by omega)).symm⟩
  | succ k ih =>
    intro l h
    obtain ⟨ss, h1, h2, h3⟩ := ih (l.drop 64) (by rw [List.length_drop]; omega)
    refine ⟨l.take 64 :: ss, fun s hs => ?_, by rw [List.length_cons, h2], by rw [List.flatten_cons, h3, List.take_append_drop]⟩
    rcases List.mem_cons.1 hs with rfl | hs
    · rw [List.length_take]; omega
    · exact h1 s hs
end Go.Proofs.YtmobjpandmdmdaaGreatDoor
