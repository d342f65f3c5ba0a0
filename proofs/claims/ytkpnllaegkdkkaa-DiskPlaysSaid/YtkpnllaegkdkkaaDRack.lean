/- A disk and its power that a call made itself, as one thing; what each call does with it. -/
import Derived.Test.YtkpnllaegkdkkaaDImage
namespace Go.Proofs.Ytkpnllaegkdkkaa
open Go.RowKit

theorem less_none : less (-1) = -1 := rfl
/-- A disk at a power without a fuse, made since w0. -/
structure Rack (w0 : World) (p d : Nat) (F : List Nat) (n : Nat) (S : List (List UInt8)) (ps : List Dk.Wr) (acts : Nat) (w : World) : Prop where
  pow : PowerAt p false (-1) acts w
  liv : Live d p F n S ps 0 w
  old : Below w0.heap.size w0 w
  pn : w0.heap.size ≤ p
  fn : ∀ x ∈ F, w0.heap.size ≤ x
section
variable {w0 w : World} {p d : Nat} {F : List Nat} {n : Nat} {S : List (List UInt8)} {ps : List Dk.Wr} {acts : Nat}
theorem Rack.below {w' : World} (h : Rack w0 p d F n S ps acts w) (hb : Below w.heap.size w w') : Rack w0 p d F n S ps acts w' :=
  ⟨h.pow.keep (hb.block p h.pow.lt), h.liv.below hb, h.old.trans (hb.mono h.old.size), h.pn, h.fn⟩
theorem Rack.back {w1 : World} (h : Rack w0 p d F n S ps acts w) (hb : Below w1.heap.size w1 w0) : Rack w1 p d F n S ps acts w :=
  ⟨h.pow, h.liv, hb.trans (h.old.mono hb.size), Nat.le_trans hb.size h.pn, fun x hx => Nat.le_trans hb.size (h.fn x hx)⟩
theorem Rack.write (h : Rack w0 p d F n S ps acts w) (a : Nat) (q : ByteArray) (ha : a < n) (hq : q.size = 64) (hfew : ps.length < 1000000) (hacts : acts ≤ 1000000000) :
    Calls Try.prog 12 #[.pointer (some ⟨d, 0, none⟩), .int .i64 a, .string q] w fun e w' => e = .returned .nilIface ∧ ∃ F', Rack w0 p d F' n S (ps ++ [(a, q.data.toList)]) (acts + 1) w' := by
  refine (Write_ok d p F n S ps 0 (-1) acts a q ha hq hfew (by omega) (by omega) (by omega) (by omega) (by omega) w h.liv h.pow).mono ?_
  rintro e w' ⟨rfl, F', hL, hP, hF, hk⟩
  have hz := h.old.size
  refine ⟨rfl, F', by rw [less_none] at hP; exact hP, hL, h.old.trans ((hk.mono hz (fun _ _ hm => hm)).below (fun k hm => ?_)), h.pn, fun x hx => ?_⟩
  · rcases List.mem_cons.1 hm with rfl | hm
    · exact h.pn
    · exact h.fn k hm
  · rcases hF x hx with h1 | h1
    · exact h.fn x h1
    · omega
theorem Rack.flush (h : Rack w0 p d F n S ps acts w) (hacts : acts ≤ 1000000000) :
    Calls Try.prog 25 #[.pointer (some ⟨d, 0, none⟩)] w fun e w' => e = .returned .nilIface ∧ Rack w0 p d F n (Dk.settleTo S ps (fun _ => 64) ps.length) [] (acts + 1) w' := by
  refine (Flush_ok d p F n S ps 0 (-1) acts (by omega) (by omega) (by omega) (by omega) (by omega) w h.liv h.pow).mono ?_
  rintro e w' ⟨rfl, hL, hP, hk⟩
  have hz := h.old.size
  refine ⟨rfl, by rw [less_none] at hP; exact hP, hL, h.old.trans ((hk.mono hz (fun _ _ hm => hm)).below (fun k hm => ?_)), h.pn, h.fn⟩
  rcases List.mem_cons.1 hm with rfl | hm
  · exact h.pn
  · exact h.fn k hm
theorem Rack.lose (h : Rack w0 p d F n S ps acts w) (kv : Value) (kb ko : Nat) (ks : List Nat) (keep : List Bool) (t : Int) (hy : Yes kv kb ko ks keep w) (hks : ∀ k ∈ ks, k < w.heap.size ∧ k ∉ F) :
    Calls Try.prog 16 #[.pointer (some ⟨d, 0, none⟩), kv, .int .i64 t] w fun e w' => e = .returned (.tuple #[]) ∧ Rack w0 p d F n (Dk.settleTo S ps (Dk.keptAt keep (Dk.clamp t)) ps.length) [] acts w' := by
  have hpF : p ∉ F := by obtain ⟨_, _, _, _, _, _, _, _, h5, _⟩ := h.liv; exact h5
  refine (Lose_any d p F n S ps 0 kv kb ko ks keep t w h.liv hy hks).mono ?_
  rintro e w' ⟨rfl, hL, hk⟩
  have hz := h.old.size
  exact ⟨rfl, h.pow.keep (hk.block p h.pow.lt hpF), hL, h.old.trans ((hk.mono hz (fun _ _ hm => hm)).below h.fn), h.pn, h.fn⟩
theorem Rack.read (h : Rack w0 p d F n S ps acts w) (a : Nat) (ha : a < n) (q : ByteArray) (hq : q.data.toList = Dk.readAt S ps a) :
    Calls Try.prog 14 #[.pointer (some ⟨d, 0, none⟩), .int .i64 a] w fun e w' => e = .returned (.tuple #[.string q, .nilIface]) ∧ w = w' := Read_ok d p F n S ps 0 (-1) acts a ha q hq w h.liv h.pow
theorem Rack.image (h : Rack w0 p d F n S ps acts w) (q : ByteArray) (hq : q.data.toList = S.flatten) :
    Calls Try.prog 11 #[.pointer (some ⟨d, 0, none⟩)] w fun e w' => e = .returned (.string q) ∧ Rack w0 p d F n S ps acts w' :=
  (Image_ok d p F n S ps 0 q hq w h.liv).mono fun _ _ ⟨he, hb⟩ => ⟨he, h.below hb⟩
theorem Rack.pending (h : Rack w0 p d F n S ps acts w) (m : Nat) (hm : m = ps.length) : Calls Try.prog 15 #[.pointer (some ⟨d, 0, none⟩)] w fun e w' => e = .returned (.int .i64 m) ∧ w = w' := by
  obtain ⟨bl, bn, pv, h, _⟩ := h.liv
  subst hm
  exact Pending_any d p bl bn pv n S ps 0 w h
theorem Rack.told (h : Rack w0 p d F n S ps acts w) : Calls Try.prog 17 #[.pointer (some ⟨p, 0, none⟩)] w fun e w' => e = .returned (.int .i64 acts) ∧ w = w' := Acts_any p false (-1) acts w h.pow
theorem Rack.sector (h : Rack w0 p d F n S ps acts w) (s q : ByteArray) (hs : s.size ≤ 9223372036854775807) (hq : q.data.toList = Dk.sector s.data.toList) :
    Calls Try.prog 13 #[.string s] w fun e w' => e = .returned (.string q) ∧ Rack w0 p d F n S ps acts w' := (sector_is s q hs hq w).mono fun _ _ ⟨he, hb⟩ => ⟨he, h.below hb⟩
end
end Go.Proofs.Ytkpnllaegkdkkaa
