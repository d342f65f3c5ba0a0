/- Whatever the sizes, the bytes and the texts, MatrixChains answers true and leaves its arguments as they were: the statement MatrixChainsSaid, with no condition. -/
import Derived.Test.YtnaeekjocaecmaaRows
import Derived.Test.YtnaeekjocaecmaaMChW
import Derived.Test.YtnaeekjocaecmaaMOpen4
import Derived.WalkKit
import Derived.ProofKit
import Derived.OpenShut
import Derived.SizedLaws
namespace Go.Proofs.Ytnaeekjocaecmaa.chainsRow
open Go.ChangeShapes Go.WideShapes Go.ChangeAt Go.RowKit
open Go.ChangeMaps (open_string shut_string)

theorem own : ownKnob Try.prog.godebug = none := by kernel_rfl
set_option maxRecDepth 100000 in
theorem lifted (os : Os) (started : os.Started) (H : Type) (enc : TypeId × Value → H) :
    ReturnsInHanded {} Try.checked os 8 .any (Rows.matrixChainsSpec.pre6 enc Try.prog Try.f8 Rows.matrixChainsRow.domain false) (Rows.matrixChainsSpec.post enc Try.prog Try.f8 false true false false) := by
  refine returnsInHanded_of_change_sized (C := Try.checked) own started (by kernel_rfl) Try.func8
    (ChangeSpec.witness6 (enc := enc) (C := Try.checked) false ⟨#[], #[.agg #[.int .i64 0, .int .i64 0, .int .i64 0, .int .i64 0], .slice none 0 0, .slice none 0 0, .slice none 0 0, .slice none 0 0], []⟩ 8 (by kernel_rfl) (by kernel_rfl) (by kernel_rfl) (by kernel_rfl)) ?_
  intro W base args ds gs before hval0 hW _ hsz0 _
  have hsz : (DataW.weightsEach Try.prog (Try.f8.params.toList ++ Rows.matrixChainsSpec.plain.varTypes Try.prog) (ds ++ gs)).all (· ≤ reachBytes) = true := hsz0
  have hval : ∀ (j : Nat) t v, Try.f8.params[j]? = some t → args[j]? = some v → Value.okWide Try.prog W .any base t v := hval0
  clear hsz0
  have hW' := hW
  obtain ⟨p, q, hA0, hV, rfl, _, _⟩ := hW
  have hA : DataW.TrodAll enc Try.prog W 0 (fun _ => true) true Try.f8.params.toList args.toList ds p := hA0
  rw [Try.params8] at hA hval hsz
  obtain ⟨v0, vs0, d0, ds0, p0, q0, hargs, rfl, rfl, h0, rr0⟩ := trodAll_cons hA
  obtain ⟨v1, vs1, d1, ds1, p1, q1, rfl, rfl, rfl, h1, rr1⟩ := trodAll_cons rr0
  obtain ⟨v2, vs2, d2, ds2, p2, q2, rfl, rfl, rfl, h2, rr2⟩ := trodAll_cons rr1
  obtain ⟨v3, vs3, d3, ds3, p3, q3, rfl, rfl, rfl, h3, rr3⟩ := trodAll_cons rr2
  obtain ⟨v4, vs4, d4, ds4, p4, q4, rfl, rfl, rfl, h4, rr4⟩ := trodAll_cons rr3
  obtain ⟨rfl, rfl, rfl⟩ := trodAll_nil rr4
  obtain rfl : args = #[v0, v1, v2, v3, v4] := by cases args; simp_all
  obtain ⟨rfl, rfl⟩ := trodVars_none hV
  clear hA0 hval0
  simp only [List.append_nil] at hW'
  have hlt0 : ∀ x ∈ p0, x.block < W.heap.size := fun x hx => by
    have := hW'.lt x (by simp [hx])
    simpa using this
  have k0 := h0
  obtain ⟨y0, rfl, Y0⟩ := open_arr4 (hval 0 61 v0 rfl rfl) h0
  have hlt1 : ∀ x ∈ p1, x.block < W.heap.size := fun x hx => by
    have := hW'.lt x (by simp [hx])
    simpa using this
  have k1 := h1
  obtain ⟨a1, len1, cap1, rfl⟩ := okWide_slice Try.underlying22 (hval 1 22 v1 rfl rfl)
  obtain ⟨fuel1, hf1⟩ := h1
  obtain ⟨_, _, _, l1, hcs1, H1, hx1⟩ := open_hand hf1 hlt1
  simp [Value.cells] at hcs1
  obtain ⟨rfl, rfl, rfl⟩ := hcs1
  have L1 : len1 ≤ 140737488355328 := by
    rcases hx1 with ⟨_, h0⟩ | ⟨e, sp, he, hel⟩
    · omega
    · have := sized_slice hsz (j := 1) (t := 22) (e := 5) (elems := e) (spare := sp) rfl (by simp only [] at he; rw [he]; rfl) Try.underlying22
      rw [hel] at this
      rw [show Try.prog.bytesOf 5 = 1 from by kernel_rfl] at this
      have hrb : reachBytes < 2 ^ 47 := reachBytes_lt
      omega
  have hlt2 : ∀ x ∈ p2, x.block < W.heap.size := fun x hx => by
    have := hW'.lt x (by simp [hx])
    simpa using this
  have k2 := h2
  obtain ⟨a2, len2, cap2, rfl⟩ := okWide_slice Try.underlying22 (hval 2 22 v2 rfl rfl)
  obtain ⟨fuel2, hf2⟩ := h2
  obtain ⟨_, _, _, l2, hcs2, H2, hx2⟩ := open_hand hf2 hlt2
  simp [Value.cells] at hcs2
  obtain ⟨rfl, rfl, rfl⟩ := hcs2
  have L2 : len2 ≤ 140737488355328 := by
    rcases hx2 with ⟨_, h0⟩ | ⟨e, sp, he, hel⟩
    · omega
    · have := sized_slice hsz (j := 2) (t := 22) (e := 5) (elems := e) (spare := sp) rfl (by simp only [] at he; rw [he]; rfl) Try.underlying22
      rw [hel] at this
      rw [show Try.prog.bytesOf 5 = 1 from by kernel_rfl] at this
      have hrb : reachBytes < 2 ^ 47 := reachBytes_lt
      omega
  have hlt3 : ∀ x ∈ p3, x.block < W.heap.size := fun x hx => by
    have := hW'.lt x (by simp [hx])
    simpa using this
  have k3 := h3
  obtain ⟨a3, len3, cap3, rfl⟩ := okWide_slice Try.underlying22 (hval 3 22 v3 rfl rfl)
  obtain ⟨fuel3, hf3⟩ := h3
  obtain ⟨_, _, _, l3, hcs3, H3, hx3⟩ := open_hand hf3 hlt3
  simp [Value.cells] at hcs3
  obtain ⟨rfl, rfl, rfl⟩ := hcs3
  have L3 : len3 ≤ 140737488355328 := by
    rcases hx3 with ⟨_, h0⟩ | ⟨e, sp, he, hel⟩
    · omega
    · have := sized_slice hsz (j := 3) (t := 22) (e := 5) (elems := e) (spare := sp) rfl (by simp only [] at he; rw [he]; rfl) Try.underlying22
      rw [hel] at this
      rw [show Try.prog.bytesOf 5 = 1 from by kernel_rfl] at this
      have hrb : reachBytes < 2 ^ 47 := reachBytes_lt
      omega
  have hlt4 : ∀ x ∈ p4, x.block < W.heap.size := fun x hx => by
    have := hW'.lt x (by simp [hx])
    simpa using this
  have k4 := h4
  obtain ⟨a4, len4, cap4, rfl⟩ := okWide_slice Try.underlying51 (hval 4 51 v4 rfl rfl)
  obtain ⟨fuel4, hf4⟩ := h4
  obtain ⟨_, _, _, f4, hcs4, C4, H4, hx4⟩ := open_texts hf4 hlt4
  simp [Value.cells] at hcs4
  obtain ⟨rfl, rfl, rfl⟩ := hcs4
  have L4 : len4 ≤ 140737488355328 := by
    rcases hx4 with ⟨_, h0⟩ | ⟨e, sp, he, hel, _⟩
    · omega
    · have := sized_slice hsz (j := 4) (t := 51) (e := 9) (elems := strs e) (spare := sp) rfl (by simp only [] at he; rw [he]; rfl) Try.underlying51
      simp only [strs, List.length_map, hel] at this
      rw [show Try.prog.bytesOf 9 = 16 from by kernel_rfl] at this
      have hrb : reachBytes < 2 ^ 47 := reachBytes_lt
      omega
  refine (Chains_walk y0 a1 len1 cap1 l1 a2 len2 cap2 l2 a3 len3 cap3 l3 a4 len4 cap4 f4 Y0 (by omega) (by omega) (by omega) W H1 H2 H3 H4).mono fun e W' ⟨he, hb⟩ => ?_
  subst he
  exact ⟨_, rfl, _, _, _, [], _, [], hW', trodAll_mk1 (shut_bool Try.underlying4 _), (trodAll_cons_mk (Below.trod mlaidOut (by kernel_rfl) (of_decide_eq_true (by kernel_rfl)) k0 hb hlt0) (trodAll_cons_mk (Below.trod mlaidOut (by kernel_rfl) (of_decide_eq_true (by kernel_rfl)) k1 hb hlt1) (trodAll_cons_mk (Below.trod mlaidOut (by kernel_rfl) (of_decide_eq_true (by kernel_rfl)) k2 hb hlt2) (trodAll_cons_mk (Below.trod mlaidOut (by kernel_rfl) (of_decide_eq_true (by kernel_rfl)) k3 hb hlt3) (trodAll_cons_mk (Below.trod mlaidOut (by kernel_rfl) (of_decide_eq_true (by kernel_rfl)) k4 hb hlt4) trodAll_mk0))))), rfl, hb.frame _, fun h => by cases h⟩

/-- ████ THE STATEMENT ████ -/
theorem proved : Rows.MatrixChainsSaid :=
  OpenClaim.holds_of_wide 8 Try.f8 rfl rfl rfl rfl rfl rfl rfl ⟨rfl, rfl, rfl, rfl, rfl⟩ rfl rfl rfl rfl rfl (by kernel_rfl) Try.func8 (by kernel_rfl)
    (of_decide_eq_true (by kernel_rfl)) (by unfold Func.isWrapper; first | (rw [if_pos (by decide +kernel)]; kernel_rfl) | (rw [if_neg (by decide +kernel)]; exact ⟨rfl, rfl⟩))
    (fun os started H enc _ => lifted os started H enc)
end Go.Proofs.Ytnaeekjocaecmaa.chainsRow
