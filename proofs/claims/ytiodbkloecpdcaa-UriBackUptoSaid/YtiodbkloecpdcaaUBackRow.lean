/- Whatever the texts and the pairs (of bulk at most 1048576: the statement's own bound), UriBack answers true and leaves its arguments as they were: the statement UriBackUptoSaid. -/
import Derived.Test.YtiodbkloecpdcaaRows
import Derived.Test.YtiodbkloecpdcaaULawB
import Derived.Test.YtiodbkloecpdcaaUOpen
import Derived.WalkKit
import Derived.ProofKit
import Derived.JoinedCond
namespace Go.Proofs.Ytiodbkloecpdcaa.uBackRow
open Go.ChangeShapes Go.WideShapes Go.ChangeAt Go.RowKit
open Go.ChangeMaps (open_string shut_string)

theorem own : ownKnob Try.prog.godebug = none := by kernel_rfl
theorem laidOut : laidOutB Try.prog = true := by kernel_rfl
set_option maxRecDepth 100000 in
theorem lifted (os : Os) (started : os.Started) (H : Type) (enc : TypeId × Value → H) (F : Stop.Interp) :
    ReturnsInHanded {} Try.checked os 3 .any ((Rows.OpenSpec.upto Rows.uriBackSpec).pre6 enc Try.prog Try.f3 Rows.uriBackUptoRow.domain false) (((Rows.OpenSpec.upto Rows.uriBackSpec).at F).post enc Try.prog Try.f3 false true false false) := by
  refine handed_cond_shaped (C := Try.checked) (s := Rows.OpenSpec.upto Rows.uriBackSpec) (k := Rows.uptoSmall) rfl own started (by kernel_rfl) Try.func3
    (OpenSpec.witness (enc := enc) (C := Try.checked) (s := Rows.OpenSpec.upto Rows.uriBackSpec) (k := Rows.uptoSmall) rfl false ⟨#[], #[.string .empty, .string .empty, .slice none 0 0], []⟩ 8 (by kernel_rfl) (by kernel_rfl) (by kernel_rfl)
      (x := ([.lit (.string []), .lit (.string []), .nil], [], [])) (by kernel_rfl) rfl (by kernel_rfl)) ?_
  intro W base args ds gs before hval0 hW _ hk hsh _
  have hval : ∀ (j : Nat) t v, Try.f3.params[j]? = some t → args[j]? = some v → Value.okWide Try.prog W .any base t v := hval0
  have hW' := hW
  obtain ⟨p, q, hA0, hV, rfl, _, _⟩ := hW
  have hA : DataW.TrodAll enc Try.prog W 0 (fun _ => true) true Try.f3.params.toList args.toList ds p := hA0
  rw [Try.params3] at hA hval
  obtain ⟨v0, vs0, d0, ds0, p0, q0, hargs, rfl, rfl, h0, r0⟩ := trodAll_cons hA
  obtain ⟨v1, vs1, d1, ds1, p1, q1, rfl, rfl, rfl, h1, r1⟩ := trodAll_cons r0
  obtain ⟨v2, vs2, d2, ds2, p2, q2, rfl, rfl, rfl, h2, r2⟩ := trodAll_cons r1
  obtain ⟨rfl, rfl, rfl⟩ := trodAll_nil r2
  obtain rfl : args = #[v0, v1, v2] := by cases args; simp_all
  obtain ⟨rfl, rfl⟩ := trodVars_none hV
  obtain ⟨x0, rfl, rfl, rfl, hmax0⟩ := open_string Try.underlying9 (hval 0 9 v0 rfl rfl) h0
  obtain ⟨x1, rfl, rfl, rfl, hmax1⟩ := open_string Try.underlying9 (hval 1 9 v1 rfl rfl) h1
  obtain ⟨a0, len, cap, rfl⟩ := okWide_slice Try.underlying22 (hval 2 22 v2 rfl rfl)
  have k0 := h2
  obtain ⟨fuel, hf⟩ := h2
  clear hA0 hval0
  simp only [List.append_nil] at hW' hk
  have hlt : ∀ x ∈ p2, x.block < W.heap.size := fun x hx => by
    have := hW'.lt x (by simpa using hx)
    simpa using this
  have fin : ∀ W' : World, Below W.heap.size W W' → ∃ v, Ending.returned (.bool true) = .returned v ∧ ((Rows.OpenSpec.upto Rows.uriBackSpec).at F).post enc Try.prog Try.f3 false true false false W #[.string x0, .string x1, .slice a0 len cap] v W' := by
    intro W' hb
    exact ⟨_, rfl, _, _, _, _, _, [], hW', trodAll_mk1 (shut_bool Try.underlying4 _), (trodAll_cons_mk (shut_string Try.underlying9 hmax0) (trodAll_cons_mk (shut_string Try.underlying9 hmax1) (trodAll_cons_mk (Below.trod laidOut (by kernel_rfl) (of_decide_eq_true (by kernel_rfl)) k0 hb hlt) trodAll_mk0))), rfl, hb.frame _, fun h => by cases h⟩
  obtain ⟨_, _, _, l, hcs, hll, hlc, hat, hbk⟩ := open_prs hf hlt
  simp [Value.cells] at hcs
  obtain ⟨rfl, rfl, rfl⟩ := hcs
  replace hbk : bulkP l ≤ Rows.uptoBulk d2 := hbk
  have hsm : Rows.uptoBulkAll [DataW.lit (.string x0.data.toList), DataW.lit (.string x1.data.toList), d2] ≤ 1048576 := of_decide_eq_true hk
  simp only [Rows.uptoBulkAll] at hsm
  have e0 : Rows.uptoBulk (DataW.lit (H := H) (.string x0.data.toList)) = x0.data.toList.length + 1 := by rw [Rows.uptoBulk]
  have e1 : Rows.uptoBulk (DataW.lit (H := H) (.string x1.data.toList)) = x1.data.toList.length + 1 := by rw [Rows.uptoBulk]
  rw [e0, e1] at hsm
  have hl3 := bulkP_len l
  have hcl := canon_len l
  subst hll
  have hc := Back_true x0.data.toList x1.data.toList a0 cap l (by omega) (by omega) (by omega) (fun p hp => by have := bulkP_short l _ (Nat.le_refl _) p hp; omega) (by omega) W (mx_of hsh) hat
  rw [bs_self, bs_self] at hc
  refine hc.mono fun e W' ⟨he, hb⟩ => ?_
  subst he
  exact fin W' hb

/-- ████ THE STATEMENT ████ -/
theorem proved : Rows.UriBackUptoSaid :=
  OpenClaim.holds_of_cond 3 Try.f3 rfl rfl rfl rfl rfl rfl rfl ⟨rfl, rfl, rfl, rfl, rfl⟩ rfl rfl rfl rfl rfl (by kernel_rfl) Try.func3 (by kernel_rfl)
    (of_decide_eq_true (by kernel_rfl)) (by unfold Func.isWrapper; first | (rw [if_pos (by decide +kernel)]; kernel_rfl) | (rw [if_neg (by decide +kernel)]; exact ⟨rfl, rfl⟩))
    (fun os started H enc _ F => lifted os started H enc F)
end Go.Proofs.Ytiodbkloecpdcaa.uBackRow
