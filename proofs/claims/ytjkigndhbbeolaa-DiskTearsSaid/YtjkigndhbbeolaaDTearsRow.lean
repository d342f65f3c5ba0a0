/- Whatever the texts, what is kept and the number, DiskTears answers true and leaves its arguments as they were: the statement DiskTearsSaid, with no condition. -/
import Derived.Test.YtjkigndhbbeolaaRows
import Derived.Test.YtjkigndhbbeolaaDTearsW
import Derived.WalkKit
import Derived.ProofKit
import Derived.OpenShut
import Derived.SizedLaws
import Derived.Deep.Grids
namespace Go.Proofs.Ytjkigndhbbeolaa.tearsRow
open Go.ChangeShapes Go.WideShapes Go.ChangeAt Go.RowKit
open Go.ChangeMaps (open_string shut_string)

theorem own : ownKnob Try.prog.godebug = none := by kernel_rfl
theorem laidOut : laidOutB Try.prog = true := by kernel_rfl
theorem wf64 {n : Int} (h : (Lit.int .i64 n).wf = true) : -9223372036854775808 ≤ n ∧ n ≤ 9223372036854775807 := by
  simpa [Lit.wf, IntKind.min, IntKind.max, IntKind.bits, IntKind.signed] using h
theorem cellsString : Try.prog.cellsOf 9 = 1 := by kernel_rfl
theorem cellsBool : Try.prog.cellsOf 4 = 1 := by kernel_rfl
theorem getD_range {B : Nat → Bool} {n i : Nat} (h : i < n) : ((List.range n).map B).getD i false = B i := by simp [List.getD, h]

/-- From the texts and what is kept, however they lie. -/
theorem both (a0 : Option Addr) (b off len cap : Nat) (ss : List ByteArray) (ha : len = 0 ∨ a0 = some ⟨b, off, none⟩) (hl : ss.length = len) (hlc : len ≤ cap) (hss : ∀ i, i < len → (ss.getD i ByteArray.empty).size ≤ 9223372036854775807)
    (kv : Value) (kb ko : Nat) (keep : List Bool) (t : Int) (ht1 : -9223372036854775808 ≤ t) (ht2 : t ≤ 9223372036854775807) (w : World) (hb : len = 0 ∨ b < w.heap.size)
    (hc : ∀ i, i < len → w.cell? ⟨b, off + i, none⟩ = some (.string (ss.getD i ByteArray.empty))) (hkw : keep.length = 0 ∨ kb < w.heap.size)
    (hy : Yes kv kb ko (if keep.length = 0 then [] else [kb]) keep w) :
    Calls Try.prog 6 #[.slice a0 len cap, kv, .int .i64 t] w fun e w' => e = .returned (.bool true) ∧ Below w.heap.size w w' := by
  by_cases h : len ≤ 60
  · exact Tears_short a0 b off len cap ss ha hl hss kv kb ko keep t ht1 ht2 w hb hc hkw hy len _ rfl (Nat.le_refl _) (Nat.le_refl _) h
  · exact Tears_long a0 b off len cap ss ha hl hss kv kb ko keep t ht1 ht2 w hb hc hkw hy 60 _ rfl (by omega) (Nat.le_refl _) (Nat.le_refl _) (by omega) hlc

set_option maxRecDepth 100000 in
theorem lifted (os : Os) (started : os.Started) (H : Type) (enc : TypeId × Value → H) :
    ReturnsInHanded {} Try.checked os 6 .any (Rows.diskTearsSpec.pre6 enc Try.prog Try.f6 Rows.diskTearsRow.domain false) (Rows.diskTearsSpec.post enc Try.prog Try.f6 false true false false) := by
  refine returnsInHanded_of_change_sized (C := Try.checked) own started (by kernel_rfl) Try.func6
    (ChangeSpec.witness6 (enc := enc) (C := Try.checked) false ⟨#[], #[.slice none 0 0, .slice none 0 0, .int .i64 0], []⟩ 8 (by kernel_rfl) (by kernel_rfl) (by kernel_rfl) (by kernel_rfl)) ?_
  intro W base args ds gs before hval0 hW _ _ _
  have hval : ∀ (j : Nat) t v, Try.f6.params[j]? = some t → args[j]? = some v → Value.okWide Try.prog W .any base t v := hval0
  have hW' := hW
  obtain ⟨p, q, hA0, hV, rfl, _, _⟩ := hW
  have hA : DataW.TrodAll enc Try.prog W 0 (fun _ => true) true Try.f6.params.toList args.toList ds p := hA0
  rw [Try.params6] at hA hval
  obtain ⟨v0, vs0, d0, ds0, p0, q0, hargs, rfl, rfl, h0, r0⟩ := trodAll_cons hA
  obtain ⟨v1, vs1, d1, ds1, p1, q1, rfl, rfl, rfl, h1, r1⟩ := trodAll_cons r0
  obtain ⟨v2, vs2, d2, ds2, p2, q2, rfl, rfl, rfl, h2, r2⟩ := trodAll_cons r1
  obtain ⟨rfl, rfl, rfl⟩ := trodAll_nil r2
  obtain rfl : args = #[v0, v1, v2] := by cases args; simp_all
  obtain ⟨rfl, rfl⟩ := trodVars_none hV
  obtain ⟨n, rfl, rfl, rfl, w2⟩ := open_int Try.underlying3 (hval 2 3 v2 rfl rfl) h2
  obtain ⟨n1, n2⟩ := wf64 w2
  obtain ⟨a0, len, cap, rfl⟩ := okWide_slice Try.underlying55 (hval 0 55 v0 rfl rfl)
  obtain ⟨a1, klen, kcap, rfl⟩ := okWide_slice Try.underlying51 (hval 1 51 v1 rfl rfl)
  have h0k := h0
  have h1k := h1
  obtain ⟨fuel0, hf0⟩ := h0
  obtain ⟨fuel1, hf1⟩ := h1
  clear hA0 hval0
  simp only [List.append_nil] at hW'
  have hlt0 : ∀ x ∈ p0, x.block < W.heap.size := fun x hx => by
    have := hW'.lt x (by simp [hx])
    simpa using this
  have hlt1 : ∀ x ∈ p1, x.block < W.heap.size := fun x hx => by
    have := hW'.lt x (by simp [hx])
    simpa using this
  have fin : ∀ W' : World, Below W.heap.size W W' → Rows.diskTearsSpec.post enc Try.prog Try.f6 false true false false W #[.slice a0 len cap, .slice a1 klen kcap, .int .i64 n] (.bool true) W' := by
    intro W' hb
    exact ⟨_, [], _, [], _, [], hW', trodAll_mk1 (shut_bool Try.underlying4 _), trodAll_cons_mk (Below.trod laidOut (by kernel_rfl) (of_decide_eq_true (by kernel_rfl)) h0k hb hlt0) (trodAll_cons_mk (Below.trod laidOut (by kernel_rfl) (of_decide_eq_true (by kernel_rfl)) h1k hb hlt1) (trodAll_cons_mk (shut_int Try.underlying3 w2) trodAll_mk0)), rfl, hb.frame _, fun h => by cases h⟩
  -- what is kept
  obtain ⟨kb, ko, keep, hkw, hy⟩ : ∃ kb ko keep, (List.length keep = 0 ∨ kb < W.heap.size) ∧ Yes (.slice a1 klen kcap) kb ko (if keep.length = 0 then [] else [kb]) keep W := by
    rcases Go.Deep.open_bools Try.underlying51 Try.underlying4 cellsBool hf1 with ⟨hcs, hx⟩ | ⟨a, len', cap', B, hcs, _, hl, hm, hx, hcell⟩
    · simp [Value.cells] at hcs
      obtain ⟨rfl, rfl, rfl⟩ := hcs
      exact ⟨0, 0, [], Or.inl rfl, ⟨none, 0, rfl, Or.inl rfl⟩, Or.inl rfl, fun i hi => by simp at hi, by simp⟩
    · simp [Value.cells] at hcs
      obtain ⟨rfl, rfl, rfl⟩ := hcs
      simp only [Prod.mk.injEq] at hx
      obtain ⟨rfl, rfl⟩ := hx
      by_cases hk0 : klen = 0
      · subst hk0
        exact ⟨0, 0, [], Or.inl rfl, ⟨_, _, rfl, Or.inl rfl⟩, Or.inl rfl, fun i hi => by simp at hi, by simp⟩
      · obtain ⟨b, off, spot⟩ := a
        have hspot : spot = none := by simpa [Addr.add] using World.cell?_spot (hcell 0 (by omega))
        subst hspot
        have hbW : b < W.heap.size := hlt1 (.cell b off) (MemPlace.mem_row.2 ⟨0, by omega, by simp⟩)
        have hlen : ((List.range klen).map B).length = klen := by simp
        refine ⟨b, off, (List.range klen).map B, Or.inr hbW, ⟨⟨_, kcap, by rw [hlen], Or.inr rfl⟩, Or.inr (by rw [hlen, if_neg hk0]; simp), fun i hi => ?_, by rw [hlen]; unfold maxLen at hm; omega⟩⟩
        rw [hlen] at hi
        rw [getD_range hi, ← add_plain]; exact hcell i (by omega)
  rcases open_strings Try.underlying55 Try.underlying9 cellsString hf0 with ⟨hcs, hx⟩ | ⟨a, len', cap', ss, hcs, _, hl, hm, hz, hx, hcell, hws⟩
  · simp [Value.cells] at hcs
    obtain ⟨rfl, rfl, rfl⟩ := hcs
    refine (both none 0 0 0 0 [] (Or.inl rfl) rfl (Nat.le_refl _) (fun i hi => by omega) _ kb ko keep n n1 n2 W (Or.inl rfl) (fun i hi => by omega) hkw hy).mono fun e W' ⟨he, hb⟩ => ?_
    subst he
    exact ⟨_, rfl, fin _ hb⟩
  · simp [Value.cells] at hcs
    obtain ⟨rfl, rfl, rfl⟩ := hcs
    simp only [Prod.mk.injEq] at hx
    obtain ⟨rfl, rfl⟩ := hx
    simp only [if_true] at hz
    have hlen : (ss.take len).length = len := by rw [List.length_take]; omega
    by_cases hl0 : len = 0
    · subst hl0
      refine (both (some a) 0 0 0 cap [] (Or.inl rfl) rfl (Nat.zero_le _) (fun i hi => by omega) _ kb ko keep n n1 n2 W (Or.inl rfl) (fun i hi => by omega) hkw hy).mono fun e W' ⟨he, hb⟩ => ?_
      subst he
      exact ⟨_, rfl, fin _ hb⟩
    · obtain ⟨b, off, spot⟩ := a
      have hspot : spot = none := by simpa [Addr.add] using World.cell?_spot (hcell 0 (by omega))
      subst hspot
      have hbW : b < W.heap.size := hlt0 (.cell b off) (MemPlace.mem_row.2 ⟨0, by omega, by simp⟩)
      have hget : ∀ i, i < len → (ss.take len).getD i ByteArray.empty = ss.getD i ByteArray.empty := fun i hi => by simp [List.getD, hi]
      refine (both (some ⟨b, off, none⟩) b off len cap (ss.take len) (Or.inr rfl) hlen hl (fun i hi => ?_) _ kb ko keep n n1 n2 W (Or.inr hbW) (fun i hi => ?_) hkw hy).mono fun e W' ⟨he, hb⟩ => ?_
      · rw [hget i hi, List.getD, List.getElem?_eq_getElem (by omega)]
        have := hws ss[i] (List.getElem_mem _)
        unfold maxLen at this; exact this
      · rw [hget i hi, ← add_plain]; exact hcell i (by omega)
      · subst he
        exact ⟨_, rfl, fin _ hb⟩

/-- ████ THE STATEMENT ████ -/
theorem proved : Rows.DiskTearsSaid :=
  OpenClaim.holds_of_wide 6 Try.f6 rfl rfl rfl rfl rfl rfl rfl ⟨rfl, rfl, rfl, rfl, rfl⟩ rfl rfl rfl rfl rfl (by kernel_rfl) Try.func6 (by kernel_rfl)
    (of_decide_eq_true (by kernel_rfl)) (by unfold Func.isWrapper; first | (rw [if_pos (by decide +kernel)]; kernel_rfl) | (rw [if_neg (by decide +kernel)]; exact ⟨rfl, rfl⟩))
    (fun os started H enc _ => lifted os started H enc)
end Go.Proofs.Ytjkigndhbbeolaa.tearsRow
