/- The walk of the document's own Open. -/
import Derived.Test.YtdimkgidaioolaaHRef2
namespace Go.Proofs.Ytdimkgidaioolaa
open Go.RowKit
theorem rOpen_name (nm s : ByteArray) (h : 220 < nm.size) (w : World) : Calls Try.prog 14 #[.string nm, .string s] w fun e w' => e = .returned (.tuple #[.string ⟨#[]⟩, .int .i64 1, .int .i64 0]) ∧ w = w' := by
  go_enter Try.func14, Try.ntmps14
  go_wp2
  refine bodyPost_ret (results_tmp3 rfl _ _ _) rfl ?_
  exact ⟨rfl, rfl⟩
theorem rOpen_short (nm s : ByteArray) (h : nm.size ≤ 220) (hs : s.size < 36) (w : World) : Calls Try.prog 14 #[.string nm, .string s] w fun e w' => e = .returned (.tuple #[.string ⟨#[]⟩, .int .i64 14, .int .i64 0]) ∧ w = w' := by
  go_enter Try.func14, Try.ntmps14
  go_wp2
  refine bodyPost_ret (results_tmp3 rfl _ _ _) rfl ?_
  exact ⟨rfl, rfl⟩
theorem gtr_t (P : Program) (x : Int) (h : (10000 : Int) < x) (v : World) : (binOp .gtr 3 (.int .i64 x) (.int .i64 10000)).run P v = .ok (.bool true) v := by simp [go_sem, h]
theorem gtr_f (P : Program) (x : Int) (h : x ≤ 10000) (v : World) : (binOp .gtr 3 (.int .i64 x) (.int .i64 10000)).run P v = .ok (.bool false) v := by simp [go_sem]; omega
theorem neq_t (P : Program) (x y : Nat) (h : x ≠ y) (v : World) : (binOp .neq 3 (.int .i64 (x : Int)) (.int .i64 (y : Int))).run P v = .ok (.bool true) v := by simp [go_sem]; omega
theorem neq_f (P : Program) (x : Int) (v : World) : (binOp .neq 3 (.int .i64 x) (.int .i64 x)).run P v = .ok (.bool false) v := by simp [go_sem]
attribute [local go_sem high] gtr_t gtr_f neq_t neq_f
theorem read_len (s : List UInt8) (hs : 36 ≤ s.length) (w : World) : Calls Try.prog 27 #[.string (bs s), .int .i64 0] w fun e w' => e = .returned (.int .i64 (Shd.lenOf s)) ∧ ∃ n, w' = w.drewN n := by
  have := rRead_any (bs s) (by rw [bs_size]; omega) w
  rwa [bs_list] at this
set_option maxRecDepth 100000 in
set_option maxHeartbeats 2000000 in
theorem rOpen_long (nm s : List UInt8) (hn : nm.length ≤ 220) (hs : 36 ≤ s.length) (hL : 10000 < Shd.lenOf s) (w : World) :
    Calls Try.prog 14 #[.string (bs nm), .string (bs s)] w fun e w' => e = .returned (.tuple #[.string ⟨#[]⟩, .int .i64 14, .int .i64 0]) ∧ Below w.heap.size w w' := by
  have hz1 : (bs nm).size = nm.length := bs_size nm
  have hz2 : (bs s).size = s.length := bs_size s
  have CR := Lib.hid (fun v : World => read_len s hs v)
  obtain ⟨L, hLL⟩ : ∃ L, L = Shd.lenOf s := ⟨_, rfl⟩
  rw [← hLL] at hL CR
  have g1 : (10000 : Int) < (L : Int) := by omega
  clear hLL
  go_enter Try.func14, Try.ntmps14
  go_wp2_with (go_at_call 27; refine (CR.out _).mono ?_; rintro e w1 ⟨rfl, q, rfl⟩)
  have HQ := Lib.hid (below_drewN (Below.refl w.heap.size w) q)
  obtain ⟨wq, hwq⟩ : ∃ x, x = w.drewN q := ⟨_, rfl⟩
  rw [← hwq] at HQ ⊢
  clear hwq
  go_quiet (fail)
  go_wp2
  refine bodyPost_ret (results_tmp3 rfl _ _ _) rfl ?_
  exact ⟨rfl, below_drewN HQ.out _⟩
set_option maxRecDepth 100000 in
set_option maxHeartbeats 2000000 in
theorem rOpen_sized (nm s : List UInt8) (hn : nm.length ≤ 220) (hs : 36 ≤ s.length) (hL : Shd.lenOf s ≤ 10000) (hne : s.length ≠ Shd.size (Shd.lenOf s)) (w : World) :
    Calls Try.prog 14 #[.string (bs nm), .string (bs s)] w fun e w' => e = .returned (.tuple #[.string ⟨#[]⟩, .int .i64 14, .int .i64 0]) ∧ Below w.heap.size w w' := by
  have hz1 : (bs nm).size = nm.length := bs_size nm
  have hz2 : (bs s).size = s.length := bs_size s
  have CR := Lib.hid (fun v : World => read_len s hs v)
  obtain ⟨L, hLL⟩ : ∃ L, L = Shd.lenOf s := ⟨_, rfl⟩
  rw [← hLL] at hL CR hne
  have CZ := Lib.hid (fun v : World => (rSize_ok L hL v).mono (R' := fun e w' => e = .returned (.int .i64 (Shd.size L)) ∧ w' = v) (fun _ _ h => ⟨h.1, h.2.symm⟩))
  obtain ⟨Z, hZ⟩ : ∃ Z, Z = Shd.size L := ⟨_, rfl⟩
  rw [← hZ] at CZ hne
  have hd : decide ((10000 : Int) < (L : Int)) = false := decide_eq_false (by omega)
  have hcmp : ((s.length : Int) != (Z : Int)) = true := by simp; omega
  clear hLL hZ hL hne
  go_enter Try.func14, Try.ntmps14
  go_wp2_with (go_at_call 27; refine (CR.out _).mono ?_; rintro e w1 ⟨rfl, q, rfl⟩)
  have HQ := Lib.hid (below_drewN (Below.refl w.heap.size w) q)
  obtain ⟨wq, hwq⟩ : ∃ x, x = w.drewN q := ⟨_, rfl⟩
  rw [← hwq] at HQ ⊢
  clear hwq
  go_quiet (first | (go_at_call 12; exact Calls.quiet_of_same (CZ.out _)))
  go_wp2
  refine bodyPost_ret (results_tmp3 rfl _ _ _) rfl ?_
  exact ⟨rfl, below_drewN HQ.out _⟩
theorem head_take (s : List UInt8) (hs : 36 ≤ s.length) (w : World) : (Instr.slice 9 (.string (bs s)) none (some (.int .i64 36)) none).run Try.prog w = .ok (.string (bs (s.take 36))) w := by
  have := run_first_string (P := Try.prog) w 9 (bs s) .i64 36 Try.underlying9 (by rw [bs_size]; omega)
  rw [show bs (s.take 36) = (bs s).extract 0 36 from (bs_of (by rw [extract_to, bs_list])).symm]
  exact this
set_option maxRecDepth 100000 in
set_option maxHeartbeats 2000000 in
theorem rOpen_head (nm s : List UInt8) (hn : nm.length ≤ 220) (hs : 36 ≤ s.length) (hL : Shd.lenOf s ≤ 10000) (hne : s.length = Shd.size (Shd.lenOf s)) (hh : s.take 36 ≠ Shd.head nm (Shd.lenOf s)) (w : World) :
    Calls Try.prog 14 #[.string (bs nm), .string (bs s)] w fun e w' => e = .returned (.tuple #[.string ⟨#[]⟩, .int .i64 14, .int .i64 0]) ∧ Below w.heap.size w w' := by
  have hz1 : (bs nm).size = nm.length := bs_size nm
  have hz2 : (bs s).size = s.length := bs_size s
  have CR := Lib.hid (fun v : World => read_len s hs v)
  have ht := head_take s hs
  obtain ⟨L, hLL⟩ : ∃ L, L = Shd.lenOf s := ⟨_, rfl⟩
  rw [← hLL] at hL CR hne hh
  have CZ := Lib.hid (fun v : World => rSize_ok L hL v)
  have CH := Lib.hid (fun v : World => rHhead_any nm L hn v)
  rw [← hne] at CZ
  obtain ⟨T, hT⟩ : ∃ T, T = bs (s.take 36) := ⟨_, rfl⟩
  obtain ⟨H, hH⟩ : ∃ H, H = bs (Shd.head nm L) := ⟨_, rfl⟩
  have hcmp : (T.toList == H.toList) = false := by
    rw [beq_eq_false_iff_ne, ByteArray.toList_eq, ByteArray.toList_eq, hT, hH, bs_list, bs_list]; exact hh
  rw [← hT] at ht
  rw [← hH] at CH
  have hd : decide ((10000 : Int) < (L : Int)) = false := decide_eq_false (by omega)
  have HL := Lib.hid hL
  clear hLL hne hh hT hH hL
  go_enter Try.func14, Try.ntmps14
  go_wp2_with (go_at_call 27; refine (CR.out _).mono ?_; rintro e w1 ⟨rfl, q, rfl⟩)
  have HQ := Lib.hid (below_drewN (Below.refl w.heap.size w) q)
  obtain ⟨wq, hwq⟩ : ∃ x, x = w.drewN q := ⟨_, rfl⟩
  rw [← hwq] at HQ ⊢
  clear hwq
  go_region_held3 (fun _ => True) (exact trivial) (first | (go_at_call 12; refine (CZ.out _).mono ?_; rintro e w2 ⟨rfl, rfl⟩) | (go_at_call 22; refine (CH.out _).mono ?_; rintro e w3 ⟨rfl, hb⟩; have HB := Lib.hid (HQ.out.drew.trans (hb.mono HQ.out.size)); clear hb) | fail)
  go_wp2
  refine bodyPost_ret (results_tmp3 rfl _ _ _) rfl ?_
  exact ⟨rfl, HB.out⟩
end Go.Proofs.Ytdimkgidaioolaa
