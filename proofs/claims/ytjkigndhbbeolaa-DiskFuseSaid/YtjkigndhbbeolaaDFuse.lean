/- The walk of the statement DiskFuse. -/
import Derived.Test.YtjkigndhbbeolaaDDuo
import Derived.Test.YtjkigndhbbeolaaDTurns
namespace Go.Proofs.Ytjkigndhbbeolaa
open Go.RowKit

/-- Two disks, of 8 and of 3 sectors, at one power. -/
structure Duo (w0 : World) (p d e : Nat) (gone : Bool) (fuse acts : Int) (m : Nat) (w : World) : Prop where
  pow : PowerAt p gone fuse acts w
  two : ∃ F1 F2 S1 ps1 S2 ps2, Live d p F1 8 S1 ps1 0 w ∧ Live e p F2 3 S2 ps2 0 w ∧ (∀ x ∈ F1, x ∉ F2) ∧ ps1.length ≤ m ∧ ps2.length ≤ m ∧ (∀ x ∈ F1, w0.heap.size ≤ x) ∧ ∀ x ∈ F2, w0.heap.size ≤ x
  old : Below w0.heap.size w0 w
  pn : w0.heap.size ≤ p
theorem Live.lts {d p : Nat} {F : List Nat} {n : Nat} {S : List (List UInt8)} {ps : List Dk.Wr} {life : Int} {w : World} (h : Live d p F n S ps life w) : p ∉ F ∧ ∀ x ∈ F, x < w.heap.size := by
  obtain ⟨_, _, _, _, _, _, _, _, h6, h7⟩ := h; exact ⟨h6, h7⟩
section
variable {w0 w : World} {p d e : Nat} {gone : Bool} {fuse acts : Int} {m : Nat}
theorem Duo.below {w' : World} (h : Duo w0 p d e gone fuse acts m w) (hb : Below w.heap.size w w') : Duo w0 p d e gone fuse acts m w' := by
  obtain ⟨F1, F2, S1, ps1, S2, ps2, h1, h2, h3⟩ := h.two
  exact ⟨h.pow.keep (hb.block p h.pow.lt), ⟨F1, F2, S1, ps1, S2, ps2, h1.below hb, h2.below hb, h3⟩, h.old.trans (hb.mono h.old.size), h.pn⟩
theorem Duo.power {w' : World} {gone' : Bool} {fuse' acts' : Int} (h : Duo w0 p d e gone fuse acts m w) (hp : PowerAt p gone' fuse' acts' w') (hk : Kept w.heap.size [p] w w') : Duo w0 p d e gone' fuse' acts' m w' := by
  obtain ⟨F1, F2, S1, ps1, S2, ps2, h1, h2, h3⟩ := h.two
  exact ⟨hp, ⟨F1, F2, S1, ps1, S2, ps2, h1.kept hk (fun x hx e => h1.lts.1 (List.mem_singleton.1 e ▸ hx)), h2.kept hk (fun x hx e => h2.lts.1 (List.mem_singleton.1 e ▸ hx)), h3⟩,
    h.old.trans ((hk.mono (B := w0.heap.size) h.old.size (fun _ _ h => h)).below (fun k hk => by rw [List.mem_singleton.1 hk]; exact h.pn)), h.pn⟩
theorem Duo.writeD (h : Duo w0 p d e false fuse acts m w) (x : Int) (a : Nat) (hx : x = a) (q : ByteArray) (ha : a < 8) (hq : q.size = 64) (hm : m < 100000) (hf : fuse ≠ 0) (hf1 : -1 ≤ fuse) (hf2 : fuse ≤ 1000) (ha0 : 0 ≤ acts) (ha1 : acts ≤ 1000000) :
    Calls Try.prog 24 #[.pointer (some ⟨d, 0, none⟩), .int .i64 x, .string q] w fun e' w' => e' = .returned .nilIface ∧ Duo w0 p d e false (less fuse) (acts + 1) (m + 1) w' := by
  subst hx
  obtain ⟨F1, F2, S1, ps1, S2, ps2, h1, h2, h3, h4, h5, h6, h7⟩ := h.two
  refine (Write_ok d p F1 8 S1 ps1 0 fuse acts a q ha hq (by omega) hf hf1 (by omega) ha0 (by omega) w h1 h.pow).mono ?_
  rintro e' w' ⟨rfl, F', hL, hP, hF, hk⟩
  have hz := h.old.size
  refine ⟨rfl, hP, ⟨F', F2, S1, _, S2, ps2, hL, h2.kept hk (fun x hx hm => ?_), fun x hx hx2 => ?_, by rw [List.length_append]; simp; omega, by omega, fun x hx => ?_, h7⟩, h.old.trans ((hk.mono hz (fun _ _ hm => hm)).below (fun k hm => ?_)), h.pn⟩
  · rcases List.mem_cons.1 hm with rfl | hm
    · exact h2.lts.1 hx
    · exact h3 x hm hx
  · rcases hF x hx with g | g
    · exact h3 x g hx2
    · have := h2.lts.2 x hx2; omega
  · rcases hF x hx with g | g
    · exact h6 x g
    · omega
  · rcases List.mem_cons.1 hm with rfl | hm
    · exact h.pn
    · exact h6 k hm
theorem Duo.writeE (h : Duo w0 p d e false fuse acts m w) (x : Int) (a : Nat) (hx : x = a) (q : ByteArray) (ha : a < 3) (hq : q.size = 64) (hm : m < 100000) (hf : fuse ≠ 0) (hf1 : -1 ≤ fuse) (hf2 : fuse ≤ 1000) (ha0 : 0 ≤ acts) (ha1 : acts ≤ 1000000) :
    Calls Try.prog 24 #[.pointer (some ⟨e, 0, none⟩), .int .i64 x, .string q] w fun e' w' => e' = .returned .nilIface ∧ Duo w0 p d e false (less fuse) (acts + 1) (m + 1) w' := by
  subst hx
  obtain ⟨F1, F2, S1, ps1, S2, ps2, h1, h2, h3, h4, h5, h6, h7⟩ := h.two
  refine (Write_ok e p F2 3 S2 ps2 0 fuse acts a q ha hq (by omega) hf hf1 (by omega) ha0 (by omega) w h2 h.pow).mono ?_
  rintro e' w' ⟨rfl, F', hL, hP, hF, hk⟩
  have hz := h.old.size
  refine ⟨rfl, hP, ⟨F1, F', S1, ps1, S2, _, h1.kept hk (fun x hx hm => ?_), hL, fun x hx hx2 => ?_, by omega, by rw [List.length_append]; simp; omega, h6, fun x hx => ?_⟩, h.old.trans ((hk.mono hz (fun _ _ hm => hm)).below (fun k hm => ?_)), h.pn⟩
  · rcases List.mem_cons.1 hm with rfl | hm
    · exact h1.lts.1 hx
    · exact h3 x hx hm
  · rcases hF x hx2 with g | g
    · exact h3 x hx g
    · have := h1.lts.2 x hx; omega
  · rcases hF x hx with g | g
    · exact h7 x g
    · omega
  · rcases List.mem_cons.1 hm with rfl | hm
    · exact h.pn
    · exact h7 k hm
theorem Duo.flush (h : Duo w0 p d e false fuse acts m w) (hf : fuse ≠ 0) (hf1 : -1 ≤ fuse) (hf2 : fuse ≤ 1000) (ha0 : 0 ≤ acts) (ha1 : acts ≤ 1000000) :
    Calls Try.prog 25 #[.pointer (some ⟨d, 0, none⟩)] w fun e' w' => e' = .returned .nilIface ∧ Duo w0 p d e false (less fuse) (acts + 1) (m + 1) w' := by
  obtain ⟨F1, F2, S1, ps1, S2, ps2, h1, h2, h3, h4, h5, h6, h7⟩ := h.two
  refine (Flush_ok d p F1 8 S1 ps1 0 fuse acts hf hf1 (by omega) ha0 (by omega) w h1 h.pow).mono ?_
  rintro e' w' ⟨rfl, hL, hP, hk⟩
  have hz := h.old.size
  refine ⟨rfl, hP, ⟨F1, F2, _, [], S2, ps2, hL, h2.kept hk (fun x hx hm => ?_), h3, Nat.zero_le _, by omega, h6, h7⟩, h.old.trans ((hk.mono hz (fun _ _ hm => hm)).below (fun k hm => ?_)), h.pn⟩
  · rcases List.mem_cons.1 hm with rfl | hm
    · exact h2.lts.1 hx
    · exact h3 x hm hx
  · rcases List.mem_cons.1 hm with rfl | hm
    · exact h.pn
    · exact h6 k hm
/-- What an act answers when the power goes, or is gone. -/
def Gone (w0 : World) (p d e : Nat) (acts : Int) (m : Nat) (mk : Value → Value) (e' : Ending) (w' : World) : Prop :=
  ∃ g, e' = .returned (mk (.iface 83 (.pointer (some ⟨g, 0, none⟩)))) ∧ FaultAt g 10 w' ∧ g ≠ p ∧ Duo w0 p d e true 0 acts m w'
theorem Duo.of_cut {mk : Value → Value} (h : Duo w0 p d e false 0 acts m w) {e' : Ending} {w' : World} (hc : CutAt p acts mk w e' w') : Gone w0 p d e acts m mk e' w' := by
  obtain ⟨g, hg, rfl, hf, hp, hk⟩ := hc
  exact ⟨g, rfl, hf, by have := h.pow.lt; omega, h.power hp hk⟩
theorem Duo.of_gone {mk : Value → Value} (h : Duo w0 p d e true 0 acts m w) {e' : Ending} {w' : World} (hc : Refused 10 mk w e' w') : Gone w0 p d e acts m mk e' w' := by
  obtain ⟨g, hg, rfl, hf, hb⟩ := hc
  exact ⟨g, rfl, hf, by have := h.pow.lt; omega, h.below hb⟩
/-- In both cases: the fuse is 0, the power there or not. -/
theorem Duo.lostD (h : Duo w0 p d e gone 0 acts m w) (x : Int) (a : Nat) (hx : x = a) (q : ByteArray) (ha : a < 8) (hq : q.size = 64) : Calls Try.prog 24 #[.pointer (some ⟨d, 0, none⟩), .int .i64 x, .string q] w (Gone w0 p d e acts m id) := by
  subst hx
  obtain ⟨F1, F2, S1, ps1, S2, ps2, h1, h2, _⟩ := h.two
  cases gone
  · exact (Write_cut d p F1 8 S1 ps1 0 acts a q ha hq w h1 h.pow).mono fun e' w' hc => h.of_cut hc
  · exact (Write_gone d p F1 8 S1 ps1 0 0 acts a q w h1 h.pow).mono fun e' w' hc => h.of_gone hc
theorem Duo.lostE (h : Duo w0 p d e gone 0 acts m w) (x : Int) (a : Nat) (hx : x = a) (q : ByteArray) (ha : a < 3) (hq : q.size = 64) : Calls Try.prog 24 #[.pointer (some ⟨e, 0, none⟩), .int .i64 x, .string q] w (Gone w0 p d e acts m id) := by
  subst hx
  obtain ⟨F1, F2, S1, ps1, S2, ps2, h1, h2, _⟩ := h.two
  cases gone
  · exact (Write_cut e p F2 3 S2 ps2 0 acts a q ha hq w h2 h.pow).mono fun e' w' hc => h.of_cut hc
  · exact (Write_gone e p F2 3 S2 ps2 0 0 acts a q w h2 h.pow).mono fun e' w' hc => h.of_gone hc
theorem Duo.lostF (h : Duo w0 p d e gone 0 acts m w) : Calls Try.prog 25 #[.pointer (some ⟨d, 0, none⟩)] w (Gone w0 p d e acts m id) := by
  obtain ⟨F1, F2, S1, ps1, S2, ps2, h1, h2, _⟩ := h.two
  cases gone
  · exact (Flush_cut d p F1 8 S1 ps1 0 acts w h1 h.pow).mono fun e' w' hc => h.of_cut hc
  · exact (Flush_gone d p F1 8 S1 ps1 0 0 acts w h1 h.pow).mono fun e' w' hc => h.of_gone hc
theorem Duo.lostR (h : Duo w0 p d e true 0 acts m w) (x : Int) : Calls Try.prog 13 #[.pointer (some ⟨e, 0, none⟩), .int .i64 x] w fun e' w' => Gone w0 p d e acts m (fun v => .tuple #[.string ⟨#[]⟩, v]) e' w' ∧ Below w.heap.size w w' := by
  obtain ⟨F1, F2, S1, ps1, S2, ps2, h1, h2, _⟩ := h.two
  exact (Read_gone e p F2 3 S2 ps2 0 0 acts x w h2 h.pow).mono fun e' w' hc => ⟨h.of_gone hc, by obtain ⟨_, _, _, _, hb⟩ := hc; exact hb⟩
theorem Duo.sector (h : Duo w0 p d e gone fuse acts m w) (s q : ByteArray) (hs : s.size ≤ 9223372036854775807) (hq : q.data.toList = Dk.sector s.data.toList) :
    Calls Try.prog 15 #[.string s] w fun e' w' => e' = .returned (.string q) ∧ Duo w0 p d e gone fuse acts m w' := (sector_is s q hs hq w).mono fun _ _ ⟨he, hb⟩ => ⟨he, h.below hb⟩
theorem Duo.mono {m' : Nat} (h : Duo w0 p d e gone fuse acts m w) (hm : m ≤ m') : Duo w0 p d e gone fuse acts m' w := by
  obtain ⟨F1, F2, S1, ps1, S2, ps2, h1, h2, h3, h4, h5, h6⟩ := h.two
  exact ⟨h.pow, ⟨F1, F2, S1, ps1, S2, ps2, h1, h2, h3, by omega, by omega, h6⟩, h.old, h.pn⟩
end
end Go.Proofs.Ytjkigndhbbeolaa
