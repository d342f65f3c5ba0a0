/- A disk that a call made itself, while its power has a fuse, when it is gone, and when it is on again and all that was pending is lost. -/
import Derived.Test.YtfancfladdecjaaGreatDoorJTell
namespace Go.Proofs.YtfancfladdecjaaGreatDoor
open Go.RowKit

/-- What a call made lies apart from all that was there. -/
structure Own (w0 : World) (p : Nat) (F : List Nat) (w : World) : Prop where
  old : Below w0.heap.size w0 w
  pn : w0.heap.size ≤ p
  fn : ∀ x ∈ F, w0.heap.size ≤ x
section
variable {w0 : World} {d p n : Nat} {F F' : List Nat} {st st' : St} {c : Nat} {w w' : World}
theorem Lw.own (h : Lw w0 d p n F st c w) : Own w0 p F w := ⟨h.old, h.pn, h.fn⟩
theorem Own.below (h : Own w0 p F w) (hb : Below w.heap.size w w') : Own w0 p F w' := ⟨h.old.trans (hb.mono h.old.size), h.pn, h.fn⟩
theorem Own.kept {X : List Nat} (h : Own w0 p F w) (hk : Kept w.heap.size X w w') (hX : ∀ x ∈ X, w0.heap.size ≤ x) : Own w0 p F w' :=
  ⟨h.old.trans ((hk.mono h.old.size (fun _ _ hm => hm)).below (fun k hk => hX k hk)), h.pn, h.fn⟩
theorem Own.mv {X : List Nat} (h : Own w0 p F w) (hM : Mv X F F' w w') (hX : ∀ x ∈ X, w0.heap.size ≤ x) : Own w0 p F' w' := by
  have hz := h.old.size
  refine ⟨h.old.trans ((hM.kept.mono hz (fun _ _ hm => hm)).below (fun k hk => ?_)), h.pn, fun x hx => ?_⟩
  · rcases List.mem_append.1 hk with h1 | h1
    · exact hX k h1
    · exact h.fn k h1
  · rcases hM.foot x hx with h1 | h1
    · exact h.fn x h1
    · omega
/-- The power is given a fuse. -/
theorem Lw.fuse (h : Lw w0 d p n F st c w) (hc : c ≤ 100000) (r : Nat) (hr : r ≤ 1000) :
    Calls Tryz.prog 29 #[.pointer (some ⟨p, 0, none⟩), .int .i64 r] w fun e w' => e = .returned (.tuple #[]) ∧ Dsk d p n F ⟨st.S, st.ps, r, st.acts⟩ true w' ∧ St.Fit ⟨st.S, st.ps, r, st.acts⟩ 10200 ∧ Own w0 p F w' ∧ Kept w.heap.size [p] w w' := by
  refine (Fuse_any p false st.fuse st.acts r w h.jd.dsk.pow).mono ?_
  rintro e w' ⟨rfl, hP, hk⟩
  have hpF := h.jd.dsk.pF
  refine ⟨rfl, ⟨h.jd.dsk.liv.kept hk (fun x hx hm => ?_), hP⟩, ⟨?_, ?_, h.jd.a0, ?_, ?_⟩, h.own.kept hk (fun x hx => by simp at hx; rw [hx]; exact h.pn), hk⟩
  · simp at hm; exact hpF (hm ▸ hx)
  · show (-1 : Int) ≤ (r : Int); omega
  · show (r : Int) ≤ _; omega
  · show st.acts + _ ≤ _; have := h.jd.a1; omega
  · show st.ps.length + _ ≤ _; rw [h.jd.ps]; simp
/-- It is on again. -/
theorem on_again {ok : Bool} (h : Dsk d p n F st ok w) (hO : Own w0 p F w) :
    Calls Tryz.prog 31 #[.pointer (some ⟨p, 0, none⟩)] w fun e w' => e = .returned (.tuple #[]) ∧ Dsk d p n F ⟨st.S, st.ps, -1, st.acts⟩ true w' ∧ Own w0 p F w' ∧ Kept w.heap.size [p] w w' := by
  refine (On_any p (!ok) st.fuse st.acts w h.pow).mono ?_
  rintro e w' ⟨rfl, hP, hk⟩
  have hpF := h.pF
  exact ⟨rfl, ⟨h.liv.kept hk (fun x hx hm => by simp at hm; exact hpF (hm ▸ hx)), hP⟩, hO.kept hk (fun x hx => by simp at hx; rw [hx]; exact hO.pn), hk⟩
/-- What was pending is lost. -/
theorem lose_it (h : Dsk d p n F st true w) (hf : st.fuse = -1) (ha0 : 0 ≤ st.acts) (ha1 : st.acts ≤ 10000 * c) (hO : Own w0 p F w) (kv : Value) (kb ko : Nat) (ks : List Nat) (keep : List Bool) (t : Int) (hy : Yes kv kb ko ks keep w) (hks : ∀ k ∈ ks, k < w.heap.size ∧ k ∉ F) :
    Calls Tryz.prog 32 #[.pointer (some ⟨d, 0, none⟩), kv, .int .i64 t] w fun e w' => e = .returned (.tuple #[]) ∧ ∃ st', Lw w0 d p n F st' c w' ∧ st'.view = lost st (Dk.keptAt keep (Dk.clamp t)) ∧ Kept w.heap.size F w w' := by
  have hpF := h.pF
  refine (Lose_any d p F n st.S st.ps 0 kv kb ko ks keep t w h.liv hy hks).mono ?_
  rintro e w' ⟨rfl, hL, hk⟩
  refine ⟨rfl, ⟨Dk.settleTo st.S st.ps (Dk.keptAt keep (Dk.clamp t)) st.ps.length, [], -1, st.acts⟩, ?_, ?_, hk⟩
  · have hO' := hO.kept hk hO.fn
    refine ⟨⟨⟨hL, ?_⟩, rfl, rfl, ha0, ha1⟩, hO'.old, hO.pn, hO.fn⟩
    have hP := h.pow.keep (hk.block p h.pow.lt hpF)
    rw [hf] at hP
    exact hP
  · funext x
    unfold lost St.view
    rw [Dk.readAt_nil]
theorem Own.wrap (h : Own w0 p F w) (hE : ErrCell w0) : WrapC p F w := by
  have hz := hE.lt
  refine ⟨hE.below h.old, ?_, fun hm => ?_⟩
  · have := h.pn; omega
  · have := h.fn 0 hm; omega
theorem lost_fuse (S : List (List UInt8)) (ps : List Dk.Wr) (f f' a a' : Int) (len : Nat → Nat) : lost ⟨S, ps, f, a⟩ len = lost ⟨S, ps, f', a'⟩ len := rfl
/-- Open finds what is there, whoever laid it. -/
theorem Lw.open_on (h : Lw w0 d p n F st c w) {from_ m act ep : Nat} {recs : List (List UInt8)} (hO : JOn st.view from_ m act ep recs) (fi si : Int) (hfi : fi = from_) (hsi : si = (2 * m : Nat)) (hm : from_ + 2 * m ≤ n) (hm2 : 2 ≤ m) :
    Calls Tryz.prog 23 #[.pointer (some ⟨d, 0, none⟩), .int .i64 fi, .int .i64 si] w fun e w' => ∃ k v, e = .returned (.tuple #[.pointer (some ⟨k, 0, none⟩), v, .nilIface]) ∧ Texts v recs w' ∧ (∀ g, textsBlock v = some g → w.heap.size ≤ g) ∧ Lw w0 d p n F st c w' ∧ Jrn w0 d p F st k from_ m act ep recs w' ∧ Below w.heap.size w w' := by
  refine (Open_is d p n F st c from_ m act ep recs fi si hfi hsi hm hm2 w h.jd hO).mono ?_
  rintro e w' ⟨k, v, hk, rfl, hD, hA, hown, hb⟩
  have hz := h.old.size
  have hp := h.jd.dsk.pow.lt
  exact ⟨k, v, rfl, Texts.of_own hown, fun g hg => (hown.lt g (by rw [← textsBlock_own]; exact hg)).1, h.below hb, ⟨hA, hO, fun hm => by have := h.jd.dsk.Flt k hm; omega, by omega, by omega⟩, hb⟩
/-- Append on an own disk under a fuse. -/
theorem Own.append (hO : Own w0 p F w) (hE : ErrCell w0) (h : Dsk d p n F st true w) (hFt : st.Fit 10200) (hps : st.ps = []) {j from_ m act ep : Nat} {recs : List (List UInt8)} {S0 : St} (hj : Jrn w0 d p F S0 j from_ m act ep recs w) (hv : st.view = S0.view) (r : List UInt8) (hm : from_ + 2 * m ≤ n) (hr : r.length ≤ 60000) (hfit : 1 + secsAll recs + secs r ≤ m) :
    Calls Tryz.prog 28 #[.pointer (some ⟨j, 0, none⟩), .string (bs r)] w fun e w' => ∃ x, e = .returned x ∧ Fused d p n F j from_ m act ep recs act ep (recs ++ [r]) st.acts w x w' :=
  Append_fuse d p n F st from_ m act ep recs j r hm hr hfit w h hFt hps hj.at_ (by rw [hv]; exact hj.on) hj.jF hj.jp (hO.wrap hE)
/-- Reset on an own disk under a fuse. -/
theorem Own.reset (hO : Own w0 p F w) (hE : ErrCell w0) (h : Dsk d p n F st true w) (hFt : st.Fit 10200) (hps : st.ps = []) {j from_ m act ep : Nat} {old recs : List (List UInt8)} {S0 : St} (hj : Jrn w0 d p F S0 j from_ m act ep old w) (hv : st.view = S0.view) (v : Value) (hm : from_ + 2 * m ≤ n) (hep : ep + 1 ≤ 4611686018427387904) (hr : ∀ r ∈ recs, r.length ≤ 60000) (hfit : 1 + secsAll recs ≤ m) (hT : Texts v recs w) :
    Calls Tryz.prog 35 #[.pointer (some ⟨j, 0, none⟩), v] w fun e w' => ∃ x, e = .returned x ∧ Fused d p n F j from_ m act ep old (1 - act) (ep + 1) recs st.acts w x w' :=
  Reset_fuse d p n F st from_ m act ep old recs j v hm hep hr hfit w h hFt hps hj.at_ (by rw [hv]; exact hj.on) hj.jF hj.jp (hO.wrap hE) hT
end
end Go.Proofs.YtfancfladdecjaaGreatDoor
