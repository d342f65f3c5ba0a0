/- Parts are cut off a text. -/
import Derived.Test.YtiodbkloecpdcaaUEnc
namespace Go.Proofs.Ytiodbkloecpdcaa
open Go.RowKit

/-- What a cutter has left. -/
def Left (b : Nat) (S : List UInt8) (at_ : Nat) (w : World) : Prop := w.heap[b]? = some (.cells [Value.string (bs S), .int .i64 (at_ : Int)].toArray 48 (0, 0))
theorem cutter_any (S : List UInt8) (at_ : Nat) (w : World) : Calls Try.prog 36 #[.agg #[.string (bs S), .int .i64 at_]] w fun e w' => ∃ b, e = .returned (.func (.func 62) #[] #[.pointer (some ⟨b, 0, none⟩)]) ∧ Left b S at_ w' ∧ Below w.heap.size w w' ∧ w.heap.size ≤ b := by
  unfold Left
  generalize bs S = s
  go_enter Try.func36, Try.ntmps36
  go_wp2_with fail
  go_ret
  exact ⟨_, rfl, heap_alloc_new _ _, (Below.refl _ _).alloc (Nat.le_refl _) _, Nat.le_refl _⟩
set_option maxRecDepth 100000 in
set_option maxHeartbeats 4000000 in
theorem cutter1_any (b : Nat) (S : List UInt8) (at_ : Nat) (hS : S.length ≤ 140737488355328) (hat : at_ ≤ 140737488355328) (g : FuncId) (lb : Array Value) (p : UInt8 → Bool) (w : World) (hk : ∀ v, Below w.heap.size w v → Kind g lb p v) (hL : Left b S at_ w) :
    Calls Try.prog 62 #[.func (.func g) #[] lb, .pointer (some ⟨b, 0, none⟩)] w fun e w' => e = .returned (.agg #[.string (bs (S.take (Ur.len p S))), .int .i64 at_]) ∧ Left b (S.drop (Ur.len p S + 1)) (at_ + min (Ur.len p S + 1) S.length) w' ∧ Kept w.heap.size [b] w w' := by
  have hC := Lib.hid (fun v (hb : Below w.heap.size w v) => lengthTo_any S (by omega) g lb p v (hk v hb))
  clear hk
  have hkl := Ur.len_le p S
  generalize Ur.len p S = k at *
  unfold Left at hL ⊢
  obtain ⟨s, hs⟩ : ∃ s, s = bs S := ⟨_, rfl⟩
  have hss : s.size = S.length := by rw [hs, bs_size]
  obtain ⟨N, hN⟩ : ∃ N, N = S.length := ⟨_, rfl⟩
  rw [← hN] at hss hS hkl ⊢
  have R1 : ∀ v : World, (Instr.slice 9 (.string s) none (some (.int .i64 (k : Int))) none).run Try.prog v = .ok (.string (bs (S.take k))) v := fun v => by
    rw [run_first_string v 9 s .i64 k Try.underlying9 (by omega)]
    congr 2
    exact bs_of (by rw [extract_to, hs, bs_list])
  have hm : min (k + 1) N ≤ N := by omega
  have R2 : ∀ v : World, (Instr.slice 9 (.string s) (some (.int .i64 (min (k + 1) N : Nat))) none none).run Try.prog v = .ok (.string (bs (S.drop (k + 1)))) v := fun v => by
    rw [run_rest_string v 9 s .i64 (min (k + 1) N) Try.underlying9 (by omega)]
    congr 2
    refine bs_of ?_
    rw [extract_from, hs, bs_list]
    by_cases h : k + 1 ≤ N
    · rw [Nat.min_eq_left h]
    · rw [Nat.min_eq_right (by omega), List.drop_eq_nil_of_le (by omega), List.drop_eq_nil_of_le (by omega)]
  rw [← hs] at hC hL
  obtain ⟨m, hM⟩ : ∃ m, m = min (k + 1) N := ⟨_, rfl⟩
  rw [← hM] at hm R2 ⊢
  have HM := Lib.hid hM
  clear hM
  generalize bs (S.take k) = x1 at *
  generalize bs (S.drop (k + 1)) = x2 at *
  clear hs hN
  have HL := Lib.hid hL
  have hbl := lt_of_heap hL
  clear hL
  go_enter Try.func62, Try.ntmps62
  have c0 := cell_of_list HL.out 0
  have c1 := cell_of_list HL.out 1
  have f0 := free_of_list HL.out 0
  have f1 := free_of_list HL.out 1
  simp only [List.getElem?_cons_zero, List.getElem?_cons_succ] at c0 c1
  go_wp2_with (go_at_call 34; refine (hC.out _ ((Below.refl _ _).alloc (Nat.le_refl _) _)).mono ?_; rintro e w' ⟨rfl, hw⟩; obtain rfl := hw.symm; clear hw)
  go_region
  go_wp2_with fail
  have em : min ((k : Int) + 1) (N : Int) = ((min (k + 1) N : Nat) : Int) := by omega
  rw [em]
  clear em
  rw [← HM.out]
  go_region
  go_wp2_with fail
  generalize hX : (((w.setCell ⟨b, 0, none⟩ (.string ⟨#[]⟩)).setCell ⟨b, 1, none⟩ (.int .i64 0)).setCell ⟨b, 0, none⟩ (.string x2)).setCell ⟨b, 1, none⟩ (.int .i64 ((at_ : Int) + (m : Int))) = X
  have xs : X.heap.size = w.heap.size := by rw [← hX]; simp
  have xk : Kept w.heap.size [b] w X := by rw [← hX]; exact ((((Kept.refl _ _ _).setCell (Or.inl (by simp)) _).setCell (Or.inl (by simp)) _).setCell (Or.inl (by simp)) _).setCell (Or.inl (by simp)) _
  have xg : X.heap[b]? = some (.cells [Value.string x2, .int .i64 ((at_ : Int) + (m : Int))].toArray 48 (0, 0)) := by
    rw [← hX]; exact set_list (set_list (set_list (set_list HL.out 0 _) 1 _) 0 _) 1 _
  refine bodyPost_ret (results_cell_row rfl _ _ w.heap.size 48 _ (0, 0) _ rfl (by show ((X.alloc _).alloc _).heap[w.heap.size]? = _; rw [heap_alloc_old _ _ (by simp; omega), ← xs, heap_alloc_new]) Try.underlying48 rfl (by kernel_rfl)) rfl ?_
  refine ⟨rfl, ?_, ?_⟩
  · show ((X.alloc _).alloc _).heap[b]? = _
    rw [heap_alloc_old _ _ (by simp; omega), heap_alloc_old _ _ (by omega), xg]
    congr 2
  · exact ((xk.alloc (by omega) _).alloc (by simp; omega) _).drew.drew
theorem lt_of_cell {w : World} {b o : Nat} {v : Value} (h : w.cell? ⟨b, o, none⟩ = some v) : b < w.heap.size := by
  rcases Nat.lt_or_ge b w.heap.size with h1 | h1
  · exact h1
  · rw [World.cell?, show w.heap[(⟨b, o, none⟩ : Addr).block]? = none from Array.getElem?_eq_none h1] at h; cases h
theorem cell_below {w v : World} {b o : Nat} {x : Value} (h : w.cell? ⟨b, o, none⟩ = some x) (hb : Below w.heap.size w v) : v.cell? ⟨b, o, none⟩ = some x :=
  (World.cell?_of_block (w := w) (a := ⟨b, o, none⟩) (hb.block b (lt_of_cell h))).trans h
theorem cell_kept {w v : World} {b o c : Nat} {x : Value} (h : w.cell? ⟨b, o, none⟩ = some x) (hb : Kept w.heap.size [c] w v) (hn : b ≠ c) : v.cell? ⟨b, o, none⟩ = some x :=
  (World.cell?_of_block (w := w) (a := ⟨b, o, none⟩) (hb.block b (lt_of_cell h) (by simpa using hn))).trans h
theorem Left.lt {b : Nat} {S : List UInt8} {a : Nat} {w : World} (h : Left b S a w) : b < w.heap.size := lt_of_heap h
theorem Left.below {b : Nat} {S : List UInt8} {a : Nat} {w v : World} (h : Left b S a w) (hb : Below w.heap.size w v) : Left b S a v := (hb.block b h.lt).trans h
theorem cut_is (b bi : Nat) (S : List UInt8) (at_ : Nat) (d : UInt8) (hS : S.length ≤ 140737488355328) (hat : at_ ≤ 140737488355328) (w : World) (hL : Left b S at_ w) (hc : w.cell? ⟨bi, 0, none⟩ = some (.int .u8 d.toNat)) :
    Calls Try.prog 62 #[.func (.func 63) #[] #[.pointer (some ⟨bi, 0, none⟩)], .pointer (some ⟨b, 0, none⟩)] w fun e w' => e = .returned (.agg #[.string (bs (S.take (Ur.len (· == d) S))), .int .i64 at_]) ∧ Left b (S.drop (Ur.len (· == d) S + 1)) (at_ + min (Ur.len (· == d) S + 1) S.length) w' ∧ Kept w.heap.size [b] w w' :=
  cutter1_any b S at_ hS hat _ _ _ w (fun v hv => kind_is bi d v (cell_below hc hv)) hL
theorem cut_never (b : Nat) (S : List UInt8) (at_ : Nat) (hS : S.length ≤ 140737488355328) (hat : at_ ≤ 140737488355328) (w : World) (hL : Left b S at_ w) :
    Calls Try.prog 62 #[.func (.func 39) #[] #[], .pointer (some ⟨b, 0, none⟩)] w fun e w' => e = .returned (.agg #[.string (bs S), .int .i64 at_]) ∧ Kept w.heap.size [b] w w' := by
  have h := cutter1_any b S at_ hS hat 39 #[] (fun _ => false) w (fun v _ => kind_never v) hL
  rw [Ur.len_never, List.take_length] at h
  exact h.mono fun _ _ hh => ⟨hh.1, hh.2.2⟩
theorem prefix_47 (S : List UInt8) (w : World) : Calls Try.prog 33 #[.string (bs S), .string ⟨#[47]⟩] w fun e w' => e = .returned (.bool (decide (S.head? = some 47))) ∧ w' = w := by
  have h := u_strings_HasPrefix (bs S) ⟨#[47]⟩ w
  rw [bs_list] at h
  have e : Lib.hasPrefix S [47] = decide (S.head? = some 47) := by
    cases S with
    | nil => rfl
    | cons c r =>
      rw [Bool.eq_iff_iff]
      simp only [Lib.hasPrefix, List.isPrefixOf, Bool.and_true, beq_iff_eq, List.head?_cons, Option.some.injEq, decide_eq_true_eq]
      exact eq_comm
  rw [show (⟨#[47]⟩ : ByteArray).data.toList = [47] from rfl, e] at h
  exact h
end Go.Proofs.Ytiodbkloecpdcaa
