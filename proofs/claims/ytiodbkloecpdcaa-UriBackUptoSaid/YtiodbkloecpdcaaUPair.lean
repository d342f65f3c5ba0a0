/- The program reads one pair of a query. -/
import Derived.Test.YtiodbkloecpdcaaUBucket
namespace Go.Proofs.Ytiodbkloecpdcaa

namespace Ur
def Told.up (a : Nat) : Told → Told
  | .ok l => .ok l
  | .bad i => .bad (a + i)
theorem Told.up_pre (a : Nat) (x : List UInt8) (t : Told) : Told.up a (Told.pre x t) = Told.pre x (Told.up a t) := by cases t <;> rfl
theorem dec_up (a : Nat) (n : Nat) : ∀ (l : List UInt8) (i : Nat), l.length ≤ n → dec (a + i) l = Told.up a (dec i l) := by
  induction n with
  | zero => intro l i h; obtain rfl : l = [] := List.eq_nil_of_length_eq_zero (by omega); rfl
  | succ n ih =>
    intro l i h
    match l with
    | [] => rfl
    | c :: r =>
      by_cases hc : c = 37
      · subst hc
        match r with
        | [] => simp [dec, Told.up]
        | [_] => simp [dec, Told.up]
        | x :: y :: r =>
          rw [dec_two, dec_two]
          by_cases hv : 0 ≤ val x ∧ 0 ≤ val y
          · rw [if_pos hv, if_pos hv, Told.up_pre, ← ih r (i + 3) (by simp at h; omega)]; rfl
          · rw [if_neg hv, if_neg hv]; rfl
      · rw [dec_not _ _ _ hc, dec_not _ _ _ hc, Told.up_pre, ← ih r (i + 1) (by simp at h; omega)]; rfl
theorem dec_at (a : Nat) (l : List UInt8) : dec a l = Told.up a (dec 0 l) := dec_up a l.length l 0 (Nat.le_refl _)
end Ur

open Go.RowKit
theorem toldV_at (a : Nat) (l : List UInt8) : toldV a (Ur.dec 0 l) = toldV 0 (Ur.dec a l) := by
  rw [Ur.dec_at a l]
  cases Ur.dec 0 l with
  | ok t => rfl
  | bad k => simp [toldV, Ur.Told.up]
theorem decode_at (S : List UInt8) (at_ : Nat) (hS : S.length ≤ 140737488355328) (hat : at_ ≤ 140737488355328) (w : World) : Calls Try.prog 26 #[.agg #[.string (bs S), .int .i64 at_]] w fun e w' => e = .returned (toldV 0 (Ur.dec at_ S)) ∧ Below w.heap.size w w' := by
  rw [← toldV_at]
  exact decode_any S at_ hS hat w
theorem load_pair (w : World) (g : Nat) (a b : Value) (t : TypeId) (fr : Nat × Nat) (hg : w.heap[g]? = some (.cells [a, b].toArray t fr)) : (loadVar 32 ⟨g, 0, none⟩).run Try.prog w = .ok (.agg #[a, b]) w :=
  run_loadVar_row w g t 32 #[a, b] fr _ hg Try.underlying32 rfl (by kernel_rfl)
theorem results_cell3 {fn : Func} {p u v : Tmp} (h : fn.results = #[.cell p 32, .tmp u, .tmp v]) (tmps : Array Value) (w : World) (g : Nat) (t : TypeId) (a b : Value) (fr : Nat × Nat)
    (hp : tmps.getD p undef = .pointer (some ⟨g, 0, none⟩)) (hg : w.heap[g]? = some (.cells [a, b].toArray t fr)) :
    (results fn tmps).run Try.prog w = .ok (.tuple #[.agg #[a, b], tmps.getD u undef, tmps.getD v undef]) w := by
  have hp' : tmps[p]?.getD undef = .pointer (some ⟨g, 0, none⟩) := by simpa using hp
  simp [results, h, hp', asAddr, Result.andThen, load_pair w g a b t fr hg]
/-- What pair hands back. -/
def twoV : Ur.Two → Value
  | .ok n v => .tuple #[.agg #[.string (bs n), .string (bs v)], .int .i64 0, .int .i64 0]
  | .bad k => .tuple #[.agg #[.string (bs []), .string (bs [])], .int .i64 52, .int .i64 (k : Int)]
theorem is_61 (w : World) : Calls Try.prog 37 #[.int .u8 61] w fun e w' => ∃ b, e = .returned (.func (.func 63) #[] #[.pointer (some ⟨b, 0, none⟩)]) ∧ w'.cell? ⟨b, 0, none⟩ = some (.int .u8 ((61 : UInt8).toNat : Int)) ∧ Below w.heap.size w w' ∧ w.heap.size ≤ b := is_any 61 w
theorem one_str (a b : ByteArray) : ∀ v ∈ [Value.string a, .string b], v.oneCell' = true := by intro u hu; simp only [List.mem_cons, List.not_mem_nil, or_false] at hu; rcases hu with rfl | rfl <;> rfl
set_option maxRecDepth 100000 in
set_option maxHeartbeats 4000000 in
theorem pair_any (S : List UInt8) (at_ : Nat) (hS : at_ + S.length ≤ 140737488355328) (w : World) : Calls Try.prog 65 #[.agg #[.string (bs S), .int .i64 at_]] w fun e w' => e = .returned (twoV (Ur.two at_ S)) ∧ Below w.heap.size w w' := by
  have hkl := Ur.len_le (· == 61) S
  have CC := Lib.hid (fun v : World => cutter_any S at_ v)
  have K1 := Lib.hid (fun (b bi : Nat) (v : World) hL hc => cut_is b bi S at_ 61 (by omega) (by omega) v hL hc)
  have T2 := Ur.two at_ S
  obtain ⟨R, hR⟩ : ∃ R, R = Ur.two at_ S := ⟨_, rfl⟩
  rw [← hR]
  unfold Ur.two at hR
  clear T2
  generalize Ur.len (· == 61) S = k at *
  have hl2 : (S.drop (k + 1)).length ≤ 140737488355328 := by rw [List.length_drop]; omega
  have hl1 : (S.take k).length ≤ 140737488355328 := by rw [List.length_take]; omega
  have hm : at_ + min (k + 1) S.length ≤ 140737488355328 := by omega
  generalize S.drop (k + 1) = B at *
  generalize S.take k = A at *
  generalize at_ + min (k + 1) S.length = a2 at *
  have D1 := Lib.hid (fun v : World => decode_at A at_ hl1 (by omega) v)
  have K2 := Lib.hid (fun (b : Nat) (v : World) hL => cut_never b B a2 hl2 hm v hL)
  have D2 := Lib.hid (fun v : World => decode_at B a2 hl2 hm v)
  clear hl1 hl2 hm hkl
  obtain ⟨s, hs⟩ : ∃ s, s = bs S := ⟨_, rfl⟩
  obtain ⟨t1, ht1⟩ : ∃ t, t = bs A := ⟨_, rfl⟩
  obtain ⟨t2, ht2⟩ : ∃ t, t = bs B := ⟨_, rfl⟩
  rw [← hs] at CC ⊢
  rw [← ht1] at K1 D1
  rw [← ht2] at K2 D2
  clear hs ht1 ht2
  go_enter Try.func65, Try.ntmps65
  have eA := Ur.dec at_ A
  clear eA
  obtain ⟨w3, hw3⟩ : ∃ x, x = (w.alloc (.cells #[.string s, .int .i64 (at_ : Int)] 48)).alloc (.cells #[.string ⟨#[]⟩, .string ⟨#[]⟩] 32) := ⟨_, rfl⟩
  have g3 : w3.heap[w.heap.size + 1]? = some (.cells [Value.string ⟨#[]⟩, .string ⟨#[]⟩].toArray 32 (0, 0)) := by rw [hw3]; exact heap_alloc2_new _ _ _
  have b3 : Below w.heap.size w w3 := by rw [hw3]; exact ((Below.refl _ _).alloc (Nat.le_refl _) _).alloc (by simp) _
  obtain ⟨rb, hrb⟩ : ∃ r, r = w.heap.size + 1 := ⟨_, rfl⟩
  rw [← hrb] at g3
  have hrw : w.heap.size ≤ rb := by omega
  have HG := Lib.hid g3
  have HB := Lib.hid b3
  clear g3 b3
  go_wp2_with fail
  rw [← hw3, ← hrb]
  clear hw3 hrb
  refine (CC.out _).mono ?_
  rintro e w4 ⟨cb, rfl, hL4, hb4, hcb⟩
  have HL := Lib.hid hL4
  have hlt4 := lt_of_heap HG.out
  have hne : rb < cb := Nat.lt_of_lt_of_le hlt4 hcb
  have hcw : w.heap.size ≤ cb := Nat.le_trans HB.out.size hcb
  replace HG := Lib.hid (kept_block HG.out hb4)
  replace HB := Lib.hid (bthen HB.out hb4)
  clear hL4 hb4 hlt4 hcb
  cases hd1 : Ur.dec at_ A with
  | bad k1 =>
    rw [hd1] at hR D1
    simp only [toldV, Nat.zero_add] at D1
    have HR := Lib.hid hR
    clear hR hd1
    obtain ⟨x0, hx0⟩ : ∃ x, x = bs [] := ⟨_, rfl⟩
    have HX0 := Lib.hid hx0
    rw [← hx0] at D1
    clear hx0
    go_wp2_with (first | (go_at_call 37; refine (is_61 _).mono ?_; rintro e w5 ⟨bi, rfl, hci, hb5, hbi⟩; replace HG := Lib.hid (kept_block HG.out hb5); replace HB := Lib.hid (bthen HB.out hb5); replace HL := Lib.hid (HL.out.below hb5); have HC := Lib.hid hci; clear hci hb5) | (go_at_call 62; first | ((with_reducible refine (K1.out _ _ _ HL.out HC.out).mono ?_); rintro e w6 ⟨rfl, hL6, hk6⟩; have hlt6 := lt_of_heap HG.out; replace HG := Lib.hid ((hk6.block _ hlt6 (by simp only [List.mem_singleton]; omega)).trans HG.out); replace HB := Lib.hid (HB.out.trans ((hk6.mono HB.out.size (fun _ _ h => h)).below (fun k hk => by simp only [List.mem_singleton] at hk; omega))); replace HL := Lib.hid hL6; clear hL6 hk6 HC hlt6) | ((with_reducible refine (K2.out _ _ HL.out).mono ?_); rintro e w7 ⟨rfl, hk7⟩; have hlt7 := lt_of_heap HG.out; replace HG := Lib.hid ((hk7.block _ hlt7 (by simp only [List.mem_singleton]; omega)).trans HG.out); replace HB := Lib.hid (HB.out.trans ((hk7.mono HB.out.size (fun _ _ h => h)).below (fun k hk => by simp only [List.mem_singleton] at hk; omega))); clear hk7 hlt7)) | (go_at_call 26; (with_reducible refine (D1.out _).mono ?_); rintro e w8 ⟨rfl, hb8⟩; replace HG := Lib.hid (kept_block HG.out hb8); replace HB := Lib.hid (bthen HB.out hb8); replace HL := Lib.hid (HL.out.below hb8); clear hb8) | (refine wpList_store_whole rfl 32 _ _ rfl rb [.string ⟨#[]⟩, .string ⟨#[]⟩] [.string ⟨#[]⟩, .string ⟨#[]⟩] 32 rfl rfl HG.out rfl (by kernel_rfl) (one_str _ _) ?_; intro w9 h9 k9 s9; go_frame))
    try simp only [Exit.inBlock, Exit.then]
    refine bodyPost_ret (results_cell3 rfl _ _ rb 32 _ _ (0, 0) rfl h9.out) rfl ?_
    refine ⟨?_, HB.out.trans ((k9.out.mono HB.out.size (fun _ _ h => h)).below (fun k hk => by simp only [List.mem_singleton] at hk; omega))⟩
    rw [HR.out, twoV, ← bs_nil]; rfl
  | ok n =>
    rw [hd1] at hR D1
    simp only [toldV] at D1 hR
    clear hd1
    obtain ⟨x1, hx1⟩ : ∃ x, x = bs n := ⟨_, rfl⟩
    have HX1 := Lib.hid hx1
    rw [← hx1] at D1
    clear hx1
    cases hd2 : Ur.dec a2 B with
    | bad k2 =>
      rw [hd2] at hR D2
      simp only [toldV, Nat.zero_add] at D2
      have HR := Lib.hid hR
      clear hR hd2
      obtain ⟨x0, hx0⟩ : ∃ x, x = bs [] := ⟨_, rfl⟩
      have HX0 := Lib.hid hx0
      rw [← hx0] at D2
      clear hx0
      go_wp2_with (first | (go_at_call 37; refine (is_61 _).mono ?_; rintro e w5 ⟨bi, rfl, hci, hb5, hbi⟩; replace HG := Lib.hid (kept_block HG.out hb5); replace HB := Lib.hid (bthen HB.out hb5); replace HL := Lib.hid (HL.out.below hb5); have HC := Lib.hid hci; clear hci hb5) | (go_at_call 62; first | ((with_reducible refine (K1.out _ _ _ HL.out HC.out).mono ?_); rintro e w6 ⟨rfl, hL6, hk6⟩; have hlt6 := lt_of_heap HG.out; replace HG := Lib.hid ((hk6.block _ hlt6 (by simp only [List.mem_singleton]; omega)).trans HG.out); replace HB := Lib.hid (HB.out.trans ((hk6.mono HB.out.size (fun _ _ h => h)).below (fun k hk => by simp only [List.mem_singleton] at hk; omega))); replace HL := Lib.hid hL6; clear hL6 hk6 HC hlt6) | ((with_reducible refine (K2.out _ _ HL.out).mono ?_); rintro e w7 ⟨rfl, hk7⟩; have hlt7 := lt_of_heap HG.out; replace HG := Lib.hid ((hk7.block _ hlt7 (by simp only [List.mem_singleton]; omega)).trans HG.out); replace HB := Lib.hid (HB.out.trans ((hk7.mono HB.out.size (fun _ _ h => h)).below (fun k hk => by simp only [List.mem_singleton] at hk; omega))); clear hk7 hlt7)) | (go_at_call 26; (with_reducible refine (D1.out _).mono ?_); rintro e w8 ⟨rfl, hb8⟩; replace HG := Lib.hid (kept_block HG.out hb8); replace HB := Lib.hid (bthen HB.out hb8); replace HL := Lib.hid (HL.out.below hb8); clear hb8) | (go_at_call 26; (with_reducible refine (D2.out _).mono ?_); rintro e w11 ⟨rfl, hb11⟩; replace HG := Lib.hid (kept_block HG.out hb11); replace HB := Lib.hid (bthen HB.out hb11); clear hb11) | (refine wpList_store_whole rfl 32 _ _ rfl rb [.string ⟨#[]⟩, .string ⟨#[]⟩] [.string ⟨#[]⟩, .string ⟨#[]⟩] 32 rfl rfl HG.out rfl (by kernel_rfl) (one_str _ _) ?_; intro w9 h9 k9 s9; go_frame))
      try simp only [Exit.inBlock, Exit.then]
      refine bodyPost_ret (results_cell3 rfl _ _ rb 32 _ _ (0, 0) rfl h9.out) rfl ?_
      refine ⟨?_, HB.out.trans ((k9.out.mono HB.out.size (fun _ _ h => h)).below (fun k hk => by simp only [List.mem_singleton] at hk; omega))⟩
      rw [HR.out, twoV, ← bs_nil]; rfl
    | ok v =>
      rw [hd2] at hR D2
      simp only [toldV] at D2 hR
      have HR := Lib.hid hR
      clear hR hd2
      obtain ⟨x2, hx2⟩ : ∃ x, x = bs v := ⟨_, rfl⟩
      have HX2 := Lib.hid hx2
      rw [← hx2] at D2
      clear hx2
      go_wp2_with (first | (go_at_call 37; refine (is_61 _).mono ?_; rintro e w5 ⟨bi, rfl, hci, hb5, hbi⟩; replace HG := Lib.hid (kept_block HG.out hb5); replace HB := Lib.hid (bthen HB.out hb5); replace HL := Lib.hid (HL.out.below hb5); have HC := Lib.hid hci; clear hci hb5) | (go_at_call 62; first | ((with_reducible refine (K1.out _ _ _ HL.out HC.out).mono ?_); rintro e w6 ⟨rfl, hL6, hk6⟩; have hlt6 := lt_of_heap HG.out; replace HG := Lib.hid ((hk6.block _ hlt6 (by simp only [List.mem_singleton]; omega)).trans HG.out); replace HB := Lib.hid (HB.out.trans ((hk6.mono HB.out.size (fun _ _ h => h)).below (fun k hk => by simp only [List.mem_singleton] at hk; omega))); replace HL := Lib.hid hL6; clear hL6 hk6 HC hlt6) | ((with_reducible refine (K2.out _ _ HL.out).mono ?_); rintro e w7 ⟨rfl, hk7⟩; have hlt7 := lt_of_heap HG.out; replace HG := Lib.hid ((hk7.block _ hlt7 (by simp only [List.mem_singleton]; omega)).trans HG.out); replace HB := Lib.hid (HB.out.trans ((hk7.mono HB.out.size (fun _ _ h => h)).below (fun k hk => by simp only [List.mem_singleton] at hk; omega))); clear hk7 hlt7)) | (go_at_call 26; (with_reducible refine (D1.out _).mono ?_); rintro e w8 ⟨rfl, hb8⟩; replace HG := Lib.hid (kept_block HG.out hb8); replace HB := Lib.hid (bthen HB.out hb8); replace HL := Lib.hid (HL.out.below hb8); clear hb8) | (go_at_call 26; (with_reducible refine (D2.out _).mono ?_); rintro e w11 ⟨rfl, hb11⟩; replace HG := Lib.hid (kept_block HG.out hb11); replace HB := Lib.hid (bthen HB.out hb11); clear hb11) | (refine wpList_store_whole rfl 32 _ _ rfl rb [.string x1, .string x2] [.string ⟨#[]⟩, .string ⟨#[]⟩] 32 rfl rfl HG.out rfl (by kernel_rfl) (one_str _ _) ?_; intro w9 h9 k9 s9; go_frame))
      try simp only [Exit.inBlock, Exit.then]
      refine bodyPost_ret (results_cell3 rfl _ _ rb 32 _ _ (0, 0) rfl h9.out) rfl ?_
      refine ⟨?_, HB.out.trans ((k9.out.mono HB.out.size (fun _ _ h => h)).below (fun k hk => by simp only [List.mem_singleton] at hk; omega))⟩
      rw [HR.out, twoV, ← HX1.out, ← HX2.out]; rfl
end Go.Proofs.Ytiodbkloecpdcaa
