/- The walks of the statements ShardAgain and ShardBack: what opens is a sealed text, and what was sealed opens again. -/
import Derived.Test.YtdimkgidaioolaaHKnown
namespace Go.Proofs.Ytdimkgidaioolaa
open Go.RowKit
theorem same_list (x : ByteArray) : (x.toList == x.toList) = true := beq_self_eq_true _
set_option maxRecDepth 100000 in
set_option maxHeartbeats 2000000 in
theorem Again_walk (nm s : ByteArray) (w : World) : Calls Try.prog 6 #[.string nm, .string s] w fun e w' => e = .returned (.bool true) ∧ Below w.heap.size w w' := by
  obtain ⟨nl, rfl⟩ : ∃ nl, nm = bs nl := ⟨_, (bs_self nm).symm⟩
  obtain ⟨sl, rfl⟩ : ∃ sl, s = bs sl := ⟨_, (bs_self s).symm⟩
  by_cases hn : nl.length ≤ 220
  · cases ho : Shd.opn nl sl with
    | error a =>
      have C := Lib.hid (fun v : World => Open_rot nl sl hn ho v)
      clear ho hn
      go_enter Try.func6, Try.ntmps6
      go_wp2_with (first | (go_at_call 7; refine (hknown_true _).mono ?_; rintro e w1 ⟨rfl, hb⟩; have HB := Lib.hid hb; clear hb) | (go_at_call 13; refine (C.out _).mono ?_; rintro e w2 ⟨g, hg, rfl, hf, hb⟩; replace HB := Lib.hid (HB.out.trans (hb.mono HB.out.size)); clear hg hf hb) | fail)
      go_ret
      exact ⟨rfl, HB.out⟩
    | ok t =>
      obtain ⟨hst, htl⟩ := Shd.seal_opn ho
      have C := Lib.hid (fun v : World => Open_told nl sl t hn ho v)
      have C2 := Lib.hid (fun v : World => Seal_ok nl t hn htl v)
      rw [hst] at C2
      have hcmp := same_list (bs sl)
      clear ho hn hst htl
      go_enter Try.func6, Try.ntmps6
      go_wp2_with (first | (go_at_call 7; refine (hknown_true _).mono ?_; rintro e w1 ⟨rfl, hb⟩; have HB := Lib.hid hb; clear hb) | (go_at_call 13; refine (C.out _).mono ?_; rintro e w2 ⟨rfl, hb⟩; replace HB := Lib.hid (HB.out.trans (hb.mono HB.out.size)); clear hb) | (go_at_call 8; refine (C2.out _).mono ?_; rintro e w2 ⟨rfl, hb⟩; replace HB := Lib.hid (HB.out.trans (hb.mono HB.out.size)); clear hb) | fail)
      go_ret
      exact ⟨rfl, HB.out⟩
  · have C := Lib.hid (fun v : World => Open_name (bs nl) (bs sl) (by rw [bs_size]; omega) v)
    clear hn
    go_enter Try.func6, Try.ntmps6
    go_wp2_with (first | (go_at_call 7; refine (hknown_true _).mono ?_; rintro e w1 ⟨rfl, hb⟩; have HB := Lib.hid hb; clear hb) | (go_at_call 13; refine (C.out _).mono ?_; rintro e w2 ⟨g, hg, rfl, hf, hb⟩; replace HB := Lib.hid (HB.out.trans (hb.mono HB.out.size)); clear hg hf hb) | fail)
    go_ret
    exact ⟨rfl, HB.out⟩
theorem cut_extract (l : List UInt8) (k : Nat) : (bs l).extract 0 (min ((bs l).size : Int) (k : Int)).toNat = bs (l.take k) := by
  refine bs_of ?_
  rw [extract_to, bs_list, bs_size, show (min (l.length : Int) (k : Int)).toNat = min l.length k by omega]
  by_cases h : l.length ≤ k
  · rw [Nat.min_eq_left h, List.take_of_length_le (Nat.le_refl _), List.take_of_length_le h]
  · rw [Nat.min_eq_right (by omega)]
set_option maxRecDepth 100000 in
set_option maxHeartbeats 2000000 in
theorem Back_walk (nm s : ByteArray) (w : World) : Calls Try.prog 5 #[.string nm, .string s] w fun e w' => e = .returned (.bool true) ∧ Below w.heap.size w w' := by
  obtain ⟨nl, rfl⟩ : ∃ nl, nm = bs nl := ⟨_, (bs_self nm).symm⟩
  obtain ⟨sl, rfl⟩ : ∃ sl, s = bs sl := ⟨_, (bs_self s).symm⟩
  have hx1 : (bs nl).extract 0 (min ((bs nl).size : Int) 220).toNat = bs (nl.take 220) := cut_extract nl 220
  have hx2 : (bs sl).extract 0 (min ((bs sl).size : Int) 10000).toNat = bs (sl.take 10000) := cut_extract sl 10000
  obtain ⟨a, ha⟩ : ∃ a, a = nl.take 220 := ⟨_, rfl⟩
  obtain ⟨t, ht⟩ : ∃ t, t = sl.take 10000 := ⟨_, rfl⟩
  have hal : a.length ≤ 220 := by rw [ha, List.length_take]; omega
  have htl : t.length ≤ 10000 := by rw [ht, List.length_take]; omega
  rw [← ha] at hx1
  rw [← ht] at hx2
  obtain ⟨S, hS⟩ : ∃ S, S = Shd.sld a t := ⟨_, rfl⟩
  have hSl : S.length = Shd.size t.length := by rw [hS, Shd.length_seal]
  have C1 := Lib.hid (fun v : World => Seal_ok a t hal htl v)
  have C2 := Lib.hid (fun v : World => Open_told a (Shd.sld a t) t hal (Shd.opn_seal a t htl) v)
  have C3 := Lib.hid (fun v : World => Open_rot a (Shd.sld a t ++ [120]) hal (Shd.opn_longer a t 120 htl) v)
  rw [← hS] at C1 C2 C3
  have hap : bs S ++ (⟨#[120]⟩ : ByteArray) = bs (S ++ [120]) := by rw [← bs_append]; rw [bs_eq [120]] 
  have CZ := Lib.hid (fun v : World => Size_ok t.length htl v)
  have hzt : (bs t).size = t.length := bs_size t
  have hzS : (bs S).size = Shd.size t.length := by rw [bs_size, hSl]
  have hSle : Shd.size t.length ≤ 20000 := by have := Shd.size_le htl; omega
  have hcmp := same_list (bs t)
  clear ha ht hS hSl hal
  go_enter Try.func5, Try.ntmps5
  go_wp2_with (first | (go_at_call 7; refine (hknown_true _).mono ?_; rintro e w1 ⟨rfl, hb⟩; have HB := Lib.hid hb; clear hb) | (go_at_call 8; refine (C1.out _).mono ?_; rintro e w2 ⟨rfl, hb⟩; replace HB := Lib.hid (HB.out.trans (hb.mono HB.out.size)); clear hb) | (go_at_call 13; (with_reducible refine (C2.out _).mono ?_); rintro e w3 ⟨rfl, hb⟩; replace HB := Lib.hid (HB.out.trans (hb.mono HB.out.size)); clear hb) | (go_at_call 13; (with_reducible refine (C3.out _).mono ?_); rintro e w4 ⟨g, hg, rfl, hf, hb⟩; replace HB := Lib.hid (HB.out.trans (hb.mono HB.out.size)); have HF := Lib.hid hf; clear hg hf hb) | (go_at_call 10; refine (is_fault g 14 0 (by decide) _ HF.out).mono ?_; rintro e w' ⟨rfl, rfl⟩) | (go_at_call 11; refine (CZ.out _).mono ?_; rintro e w' ⟨rfl, rfl⟩) | fail)
  go_ret
  exact ⟨rfl, HB.out⟩
end Go.Proofs.Ytdimkgidaioolaa
