/- Several texts in one, in the order in which they build: JAnew JLaid JLost JCut. -/
import Derived.Test.YtbljhodnpddpiaaGreatDoorQ12
import Derived.Test.YtbljhodnpddpiaaGreatDoorRows
import Derived.Test.YtbljhodnpddpiaaGreatDoorQ08
import Derived.Deep.Grids
import Derived.WalkKit
import Derived.ProofKit
import Derived.OpenShut
import Derived.SizedLaws
import Derived.ChangeSame
import Derived.ChangeVars
import Derived.JoinedOf
import Derived.RowKit
import Derived.RowKitTokens
import Derived.LaidLaws
import Derived.LaidHandle
import Derived.Stop.Joined
import Derived.Test.YtbljhodnpddpiaaGreatDoorQ11
/- The walk of JournalAnew. -/
namespace Go.Proofs.YtbljhodnpddpiaaGreatDoor
open Go.RowKit

theorem pick_is (c : Int) (n : Nat) (hn : 0 < n) (hn2 : n ≤ 1000000) (hc : -9223372036854775808 ≤ c ∧ c ≤ 9223372036854775807) : ∃ r : Nat, r < n ∧ ∀ w : World, Calls Tryz.prog 6 #[.int .i64 c, .int .i64 n] w fun e w' => e = .returned (.int .i64 r) ∧ w = w' := by
  by_cases h0 : c < 0
  · obtain ⟨x, hx⟩ : ∃ x : Nat, -(c + 1) = (x : Int) := ⟨(-(c + 1)).toNat, by omega⟩
    refine ⟨x % n, Nat.mod_lt _ hn, fun w => ?_⟩
    have e1 : ((x : Int)).tmod (n : Int) = ((x % n : Nat) : Int) := by rw [Int.tmod_eq_emod_of_nonneg (by omega)]; rfl
    have e2 : ((x : Int)) % (n : Int) = ((x % n : Nat) : Int) := rfl
    have hz : ¬ ((n : Int) = 0) := by omega
    have hlt := Nat.mod_lt x hn
    obtain ⟨r, hr⟩ : ∃ r, r = x % n := ⟨_, rfl⟩
    rw [← hr] at e1 e2 hlt ⊢
    clear hr
    go_enter Tryz.func6, Tryz.ntmps6
    go_wp2
    go_ret
    exact ⟨rfl, rfl⟩
  · obtain ⟨x, rfl⟩ : ∃ x : Nat, c = (x : Int) := ⟨c.toNat, by omega⟩
    refine ⟨x % n, Nat.mod_lt _ hn, fun w => ?_⟩
    have e1 : ((x : Int)).tmod (n : Int) = ((x % n : Nat) : Int) := by rw [Int.tmod_eq_emod_of_nonneg (by omega)]; rfl
    have e2 : ((x : Int)) % (n : Int) = ((x % n : Nat) : Int) := rfl
    have hz : ¬ ((n : Int) = 0) := by omega
    have hlt := Nat.mod_lt x hn
    obtain ⟨r, hr⟩ : ∃ r, r = x % n := ⟨_, rfl⟩
    rw [← hr] at e1 e2 hlt ⊢
    clear hr
    go_enter Tryz.func6, Tryz.ntmps6
    go_wp2
    go_ret
    exact ⟨rfl, rfl⟩
/-- What lies in none of a disk's blocks. -/
def Aw (v : Value) (p j : Nat) (F : List Nat) : Prop := ∀ g, textsBlock v = some g → g ∉ [p, j] ∧ g ∉ F
theorem Aw.mv {v : Value} {p j : Nat} {F F' X : List Nat} {l : List (List UInt8)} {w w' : World} (h : Aw v p j F) (hT : Texts v l w) (hM : Mv X F F' w w') : Aw v p j F' :=
  fun g hg => ⟨(h g hg).1, hM.away (hT.lt hg) (h g hg).2⟩
theorem secsAll_cut (l : List (List UInt8)) (n : Nat) : secsAll (cutAll l n 100) ≤ 2 * n := by
  have h1 := length_cutAll l n 100
  have h2 := cutAll_short l n 100
  obtain ⟨x, hx⟩ : ∃ x, x = cutAll l n 100 := ⟨_, rfl⟩
  rw [← hx] at h1 h2 ⊢
  clear hx
  induction x generalizing n with
  | nil => rw [secsAll_nil]; omega
  | cons s x ih =>
    rw [List.length_cons] at h1
    have := ih (n - 1) (fun t ht => h2 t (List.mem_cons_of_mem _ ht)) (by omega)
    have hs := h2 s (List.mem_cons_self ..)
    rw [secsAll_cons, secs_eq]
    omega
theorem Texts.kp {v : Value} {l : List (List UInt8)} {w w' : World} {p j : Nat} {F : List Nat} (h : Texts v l w) (hk : Kept w.heap.size [p] w w') (hA : Aw v p j F) : Texts v l w' :=
  h.mv (F := F) (F' := F) (X := [p, j]) (Mv.of_kept hk (fun _ hx => by simp at hx; simp [hx])) hA
theorem Texts.kf {v : Value} {l : List (List UInt8)} {w w' : World} {p j : Nat} {F : List Nat} (h : Texts v l w) (hk : Kept w.heap.size F w w') (hA : Aw v p j F) : Texts v l w' :=
  h.mv (F := F) (F' := F) (X := [p, j]) ⟨hk.mono (Nat.le_refl _) (fun _ _ hm => List.mem_append.2 (Or.inr hm)), fun _ h => Or.inl h⟩ hA
theorem take_more {l : List (List UInt8)} {i : Nat} (h : i < l.length) : l.take (i + 1) = l.take i ++ [l.getD i []] := by
  rw [List.take_succ_eq_append_getElem h, List.getD, List.getElem?_eq_getElem h]; rfl
theorem secsAll_short (l : List (List UInt8)) (n : Nat) (hl : l.length ≤ n) (h : ∀ s ∈ l, s.length ≤ 100) : secsAll l ≤ 2 * n := by
  induction l generalizing n with
  | nil => rw [secsAll_nil]; omega
  | cons s x ih =>
    rw [List.length_cons] at hl
    have := ih (n - 1) (by omega) (fun t ht => h t (List.mem_cons_of_mem _ ht))
    have hs := h s (List.mem_cons_self ..)
    rw [secsAll_cons, secs_eq]
    omega
theorem Texts.at_ {v : Value} {l : List (List UInt8)} {w : World} (h : Texts v l w) {i : Nat} (hi : i < l.length) : ∃ g off cap, v = .slice (some ⟨g, off, none⟩) l.length cap ∧ w.cell? ⟨g, off + i, none⟩ = some (.string (bs (l.getD i []))) := by
  rcases h with ⟨_, h0⟩ | ⟨g, off, cap, hv, _, hc⟩
  · rw [h0] at hi; simp at hi
  · exact ⟨g, off, cap, hv, hc i hi⟩
end Go.Proofs.YtbljhodnpddpiaaGreatDoor

/- What the condition of the journal's rows gives a walk; lists of texts and of yes and no, as a call was given them. -/
namespace Go.Proofs.YtbljhodnpddpiaaGreatDoor
open Go.ChangeShapes Go.WideShapes Go.ChangeAt Go.RowKit
open Go.ChangeMaps (open_string shut_string)

theorem lh_cellsString : Tryz.prog.cellsOf 9 = 1 := by kernel_rfl
theorem int_range {n : Int} (h : (Lit.int .i64 n).wf = true) : -9223372036854775808 ≤ n ∧ n ≤ 9223372036854775807 := by
  have h1 : IntKind.i64.min = -9223372036854775808 := by decide
  have h2 : IntKind.i64.max = 9223372036854775807 := by decide
  simp only [Lit.wf, Bool.and_eq_true, decide_eq_true_eq] at h
  omega
/-- A list of texts, as a call was given it. -/
theorem given_of {H : Type} {enc : TypeId × Value → H} {W : World} {a0 : Option Addr} {len cap : Nat} {d : DataW H} {ps : List MemPlace} (h : DataW.Trod enc Tryz.prog W 0 (fun _ => true) true 31 (.slice a0 len cap) d ps) (hlt : ∀ x ∈ ps, x.block < W.heap.size) :
    ∃ l : List (List UInt8), l.length ≤ 9223372036854775807 ∧ Given (.slice a0 len cap) l W := by
  obtain ⟨fuel0, hf0⟩ := h
  rcases open_strings Tryz.underlying31 Tryz.underlying9 lh_cellsString hf0 with ⟨hcs, hx⟩ | ⟨a, len', cap', ss, hcs, _, hl, hm, hz, hx, hcell, hws⟩
  · simp [Value.cells] at hcs
    obtain ⟨rfl, rfl, rfl⟩ := hcs
    exact ⟨[], by simp, Or.inr (Texts.nil W)⟩
  · simp [Value.cells] at hcs
    obtain ⟨rfl, rfl, rfl⟩ := hcs
    simp only [Prod.mk.injEq] at hx
    obtain ⟨rfl, rfl⟩ := hx
    simp only [if_true] at hz
    have hlen : (ss.take len).length = len := by rw [List.length_take]; omega
    have hmm : len ≤ 9223372036854775807 := by unfold maxLen at hm; omega
    by_cases hl0 : len = 0
    · subst hl0
      exact ⟨[], by simp, Or.inl ⟨rfl, _, _, rfl⟩⟩
    · obtain ⟨b, off, spot⟩ := a
      have hspot : spot = none := by simpa [Addr.add] using World.cell?_spot (hcell 0 (by omega))
      subst hspot
      have hbW : b < W.heap.size := hlt (.cell b off) (MemPlace.mem_row.2 ⟨0, by omega, by simp⟩)
      refine ⟨(ss.take len).map fun s => s.data.toList, by rw [List.length_map, hlen]; exact hmm, Or.inr (Or.inr ⟨b, off, cap, by rw [List.length_map, hlen], hbW, fun i hi => ?_⟩)⟩
      rw [List.length_map, hlen] at hi
      rw [← add_plain]
      have h1 := hcell i (by omega)
      have h2 : strv (((ss.take len).map fun s => s.data.toList).getD i []) = .string (ss.getD i ByteArray.empty) := by
        have hi2 : i < ss.length := by omega
        simp only [List.getD, List.getElem?_map, List.getElem?_take, if_pos hi, List.getElem?_eq_getElem hi2, Option.map_some, Option.getD_some]
        unfold strv
        rw [bs_self]
      rw [h2]; exact h1
/-- A world that meets it: the settled one, the variable's cell laid. -/
noncomputable def laidWorld (os : Os) : World :=
  let w0 := World.holding Tryz.prog os ⟨#[], #[], []⟩
  { w0 with heap := w0.heap.modify 0 fun
      | .cells _ t frozen => .cells #[.iface 155 (.agg #[.pointer (some ⟨2, 37, none⟩)])] t frozen
      | o => o }
theorem laidWorld_met (os : Os) (args : Array Value) : laidMetH Tryz.prog [("errors.errorType", Rows.laid_errors_errorType)] ((laidWorld os).forCall (fun _ _ => 0) ⟨#[], args, []⟩).memory :=
  laidMetH_of_parts (laidMet_nil _ _) (by kernel_rfl)
theorem lh_et : Tryz.prog.globalNamed "errors.errorType" = some 0 := by kernel_rfl
theorem lh_rt : (Tryz.prog.cutTypes.find? (·.1 == "internal/reflectlite.rtype")).map (·.2) = some 155 := by kernel_rfl
theorem lh_oneRow : ((List.range 222).filter fun t => Tryz.prog.rowNamed t [101, 114, 114, 111, 114]) = [37] := by kernel_rfl
theorem lh_size : Tryz.prog.types.size = 222 := by kernel_rfl
theorem errCell_of_laid {W : World} (h : laidMetH Tryz.prog [("errors.errorType", Rows.laid_errors_errorType)] W) : ErrCell W := by
  have h' : laidMet Tryz.prog [] W ∧ handlesMet Tryz.prog [("errors.errorType", Rows.laid_errors_errorType)] W := h
  obtain ⟨name, u, ty, e1, e2, e3, e4, e5⟩ := h'.2 _ (List.mem_singleton.2 rfl)
  have en : name = [101, 114, 114, 111, 114] := (Option.some.inj e1).symm
  subst en
  obtain rfl := Option.some.inj (lh_rt.symm.trans e2)
  have hm : ty ∈ (List.range 222).filter fun t => Tryz.prog.rowNamed t [101, 114, 114, 111, 114] := List.mem_filter.2 ⟨List.mem_range.2 (by rw [← lh_size]; exact e3), e4⟩
  rw [lh_oneRow] at hm
  obtain rfl := List.mem_singleton.1 hm
  have hh : typeHandle Tryz.prog 37 = .pointer (some ⟨2, 37, none⟩) := by kernel_rfl
  rw [hh] at e5
  unfold ErrCell
  simpa using World.var?_cell lh_et e5 0
theorem cellsBool : Tryz.prog.cellsOf 4 = 1 := by kernel_rfl
theorem getD_range {B : Nat → Bool} {n i : Nat} (h : i < n) : ((List.range n).map B).getD i false = B i := by simp [List.getD, h]
/-- A list of yes and no, as a call was given it. -/
theorem yes_of {H : Type} {enc : TypeId × Value → H} {W : World} {a1 : Option Addr} {klen kcap : Nat} {d : DataW H} {ps : List MemPlace} (h : DataW.Trod enc Tryz.prog W 0 (fun _ => true) true 46 (.slice a1 klen kcap) d ps) (hlt : ∀ x ∈ ps, x.block < W.heap.size) :
    ∃ kb ko ks keep, (∀ k ∈ ks, k < W.heap.size) ∧ Yes (.slice a1 klen kcap) kb ko ks keep W := by
  obtain ⟨fuel1, hf1⟩ := h
  rcases Go.Deep.open_bools Tryz.underlying46 Tryz.underlying4 cellsBool hf1 with ⟨hcs, hx⟩ | ⟨a, len', cap', B, hcs, _, hl, hm, hx, hcell⟩
  · simp [Value.cells] at hcs
    obtain ⟨rfl, rfl, rfl⟩ := hcs
    exact ⟨0, 0, [], [], (fun k hk => by cases hk), ⟨none, 0, rfl, Or.inl rfl⟩, Or.inl rfl, fun i hi => by simp at hi, by simp⟩
  · simp [Value.cells] at hcs
    obtain ⟨rfl, rfl, rfl⟩ := hcs
    simp only [Prod.mk.injEq] at hx
    obtain ⟨rfl, rfl⟩ := hx
    by_cases hk0 : klen = 0
    · subst hk0
      exact ⟨0, 0, [], [], (fun k hk => by cases hk), ⟨_, _, rfl, Or.inl rfl⟩, Or.inl rfl, fun i hi => by simp at hi, by simp⟩
    · obtain ⟨b, off, spot⟩ := a
      have hspot : spot = none := by simpa [Addr.add] using World.cell?_spot (hcell 0 (by omega))
      subst hspot
      have hbW : b < W.heap.size := hlt (.cell b off) (MemPlace.mem_row.2 ⟨0, by omega, by simp⟩)
      have hlen : ((List.range klen).map B).length = klen := by simp
      refine ⟨b, off, [b], (List.range klen).map B, (fun k hk => by simp at hk; rw [hk]; exact hbW), ⟨⟨_, kcap, by rw [hlen], Or.inr rfl⟩, Or.inr (by simp), fun i hi => ?_, by rw [hlen]; unfold maxLen at hm; omega⟩⟩
      rw [hlen] at hi
      rw [getD_range hi, ← add_plain]; exact hcell i (by omega)
end Go.Proofs.YtbljhodnpddpiaaGreatDoor

/- What a disk holds when its power has gone while records were laid, whatever was lost: what was there, or all that is new, or a first sector that is none. -/
namespace Go.Proofs.YtbljhodnpddpiaaGreatDoor
open Go.RowKit

theorem cut_append {x : St} {a b : List Do} (h : (doAll (x, true) (a ++ b)).2 = false) :
    ((doAll (x, true) a).2 = false ∧ (doAll (x, true) (a ++ b)).1 = (doAll (x, true) a).1) ∨ ∃ y, doAll (x, true) a = (y, true) ∧ (doAll (y, true) b).2 = false ∧ (doAll (x, true) (a ++ b)).1 = (doAll (y, true) b).1 := by
  rw [doAll_append] at h ⊢
  obtain ⟨⟨y, o⟩, hy⟩ : ∃ z, z = doAll (x, true) a := ⟨_, rfl⟩
  rw [← hy] at h ⊢
  cases o with
  | false => exact Or.inl ⟨rfl, by rw [doAll_off]⟩
  | true => exact Or.inr ⟨y, rfl, h, rfl⟩
theorem cut_one {x : St} {o : Do} : (doAll (x, true) [o] = (x, false)) ∨ doAll (x, true) [o] = (x.did o, true) := by
  by_cases h0 : x.fuse = 0
  · left; rw [doAll_cons, does_cut h0]; rfl
  · right; rw [doAll_cons, does_on h0]; rfl
theorem puts_cut (ss : List (List UInt8)) : ∀ (b : Nat) (st : St), ∃ qs, (doAll (st, true) (puts b ss)).1.S = st.S ∧ (doAll (st, true) (puts b ss)).1.ps = st.ps ++ qs ∧ ∀ x ∈ qs, b ≤ x.1 ∧ x.1 < b + ss.length := by
  induction ss with
  | nil => intro b st; exact ⟨[], rfl, by simp [puts, doAll], by simp⟩
  | cons s ss ih =>
    intro b st
    rw [show puts b (s :: ss) = .put b s :: puts (b + 1) ss from rfl, doAll_cons]
    by_cases h0 : st.fuse = 0
    · rw [does_cut h0, doAll_off]; exact ⟨[], rfl, by simp, by simp⟩
    · rw [does_on h0]
      obtain ⟨qs, h1, h2, h3⟩ := ih (b + 1) (st.did (.put b s))
      refine ⟨(b, s) :: qs, h1, ?_, ?_⟩
      · rw [h2]; show (st.ps ++ [(b, s)]) ++ qs = _; simp
      · intro x hx
        rw [List.length_cons]
        rcases List.mem_cons.1 hx with rfl | hx
        · exact ⟨Nat.le_refl _, by show b < _; omega⟩
        · have := h3 x hx; omega
theorem view_on {n : Nat} (os : List Do) : ∀ {st : St} (_ : StOk st n) (_ : ∀ o ∈ os, o.Good n) (_ : (doAll (st, true) os).2 = true), StOk (doAll (st, true) os).1 n ∧ (doAll (st, true) os).1.view = updAll st.view os := by
  induction os with
  | nil => intro st h _ _; exact ⟨h, rfl⟩
  | cons o os ih =>
    intro st h ho hf
    have hg := ho o (List.mem_cons_self ..)
    rw [doAll_cons] at hf ⊢
    by_cases h0 : st.fuse = 0
    · rw [does_cut h0, doAll_off] at hf; cases hf
    · rw [does_on h0] at hf ⊢
      obtain ⟨h3, h4⟩ := ih (h.did hg) (fun o ho' => ho o (List.mem_cons_of_mem _ ho')) hf
      refine ⟨h3, ?_⟩
      rw [h4, view_did h hg]; rfl
theorem ok_any {n : Nat} (os : List Do) : ∀ {st : St} (_ : StOk st n) (_ : ∀ o ∈ os, o.Good n), StOk (doAll (st, true) os).1 n := by
  induction os with
  | nil => intro st h _; exact h
  | cons o os ih =>
    intro st h ho
    have hg := ho o (List.mem_cons_self ..)
    rw [doAll_cons]
    by_cases h0 : st.fuse = 0
    · rw [does_cut h0, doAll_off]; exact h
    · rw [does_on h0]
      exact ih (h.did hg) (fun o ho' => ho o (List.mem_cons_of_mem _ ho'))
/-- What stands on the sectors when of each pending write so many bytes have come. -/
def lost (st : St) (len : Nat → Nat) (x : Nat) : List UInt8 := (Dk.settleTo st.S st.ps len st.ps.length).getD x []
theorem settle_far {S : List (List UInt8)} {ps : List Dk.Wr} {len : Nat → Nat} {x : Nat} (hp : ∀ q ∈ ps, q.1 < S.length) (h : ∀ q ∈ ps, q.1 ≠ x) (j : Nat) (hj : j ≤ ps.length) : (Dk.settleTo S ps len j).getD x [] = S.getD x [] := by
  induction j with
  | zero => rw [Dk.settleTo_zero]
  | succ j ih =>
    have hm := Dk.getD_mem_of_lt (ps := ps) (j := j) (by omega)
    rw [Dk.settleTo_succ, Dk.put_at _ _ _ _ (by rw [Dk.length_settleTo]; exact hp _ hm), if_neg (fun e => h _ hm e.symm), ih (by omega)]
theorem settle_first {S : List (List UInt8)} {a : Nat} {s : List UInt8} {qs : List Dk.Wr} {len : Nat → Nat} (ha : a < S.length) (hp : ∀ q ∈ qs, q.1 < S.length) (h : ∀ q ∈ qs, q.1 ≠ a) (j : Nat) (hj : j ≤ qs.length) : (Dk.settleTo S ((a, s) :: qs) len (j + 1)).getD a [] = s.take (len 0) ++ (S.getD a []).drop (len 0) := by
  induction j with
  | zero =>
    rw [Dk.settleTo_succ, Dk.settleTo_zero, List.getD_cons_zero, Dk.put_at _ _ _ _ (by exact ha), if_pos rfl]
  | succ j ih =>
    have hm := Dk.getD_mem_of_lt (ps := qs) (j := j) (by omega)
    rw [Dk.settleTo_succ, List.getD_cons_succ, Dk.put_at _ _ _ _ (by rw [Dk.length_settleTo]; exact hp _ hm), if_neg (fun e => h _ hm e.symm), ih (by omega)]
theorem lost_clean {st : St} (h : st.ps = []) (len : Nat → Nat) : lost st len = st.view := by
  funext x
  unfold lost St.view
  rw [h, Dk.readAt_nil, List.length_nil, Dk.settleTo_zero]
theorem lost_far {st : St} {n : Nat} (hok : StOk st n) {len : Nat → Nat} {x : Nat} (h : ∀ q ∈ st.ps, q.1 ≠ x) : lost st len x = st.S.getD x [] :=
  settle_far (fun q hq => by rw [hok.len]; exact (hok.wrs q hq).1) h _ (Nat.le_refl _)
theorem view_clean {st : St} (h : st.ps = []) (x : Nat) : st.view x = st.S.getD x [] := by
  unfold St.view; rw [h, Dk.readAt_nil]
theorem first_0 (u old : List UInt8) (L : Nat) (hold : old.getD 0 0 ≠ 1) : ((0 :: u).take L ++ old.drop L).getD 0 0 ≠ (1 : UInt8) := by
  cases L with
  | zero => exact hold
  | succ L => simp
theorem first_all (first : List UInt8) (L : Nat) : first.take (L + 1) ++ (0 :: first.drop 1).drop (L + 1) = first := by
  rw [List.drop_succ_cons, List.drop_drop, Nat.add_comm 1 L, List.take_append_drop]
theorem no_mark {l : List UInt8} (h : Lib.hasPrefix l [1] = false) : l.getD 0 0 ≠ 1 := by
  cases l with
  | nil => decide
  | cons b l =>
    rintro h1
    have : b = 1 := by simpa using h1
    subst this
    simp [Lib.hasPrefix] at h
/-- What may stand there. -/
structure Mix (W V W' : Nat → List UInt8) (a k : Nat) : Prop where
  far : ∀ x, x < a ∨ a + 1 + k ≤ x → W' x = W x
  here : W' = W ∨ (W' a).getD 0 0 ≠ 1 ∨ W' = V
theorem lost_mix {n : Nat} {S : List (List UInt8)} {W V : Nat → List UInt8} {a k : Nat} {u : List UInt8} {y : St} (hok : StOk y n) (len : Nat → Nat) (hS : y.S = S) (hfar : ∀ x, x < a ∨ a + 1 + k ≤ x → S.getD x [] = W x)
    (h : (∃ qs, y.ps = (a, 0 :: u) :: qs ∧ (∀ q ∈ qs, a + 1 ≤ q.1 ∧ q.1 < a + 1 + k) ∧ (S.getD a []).getD 0 0 ≠ 1) ∨ ((∀ q ∈ y.ps, a + 1 ≤ q.1 ∧ q.1 < a + 1 + k) ∧ (S.getD a []).getD 0 0 ≠ 1)) : Mix W V (lost y len) a k := by
  rcases h with ⟨qs, hq, hqs, h0⟩ | ⟨hqs, h0⟩
  · refine ⟨fun x hx => ?_, Or.inr (Or.inl ?_)⟩
    · rw [lost_far hok (fun q hq' => ?_), hS, hfar x hx]
      rw [hq] at hq'
      rcases List.mem_cons.1 hq' with rfl | h1
      · show a ≠ x; omega
      · have := hqs q h1; omega
    · unfold lost
      have hw := hok.wrs
      rw [hq] at hw
      have ha := hw _ (List.mem_cons_self ..)
      rw [hq, List.length_cons, settle_first (by rw [hok.len]; exact ha.1) (fun q h1 => by rw [hok.len]; exact (hw q (List.mem_cons_of_mem _ h1)).1) (fun q h1 => by have := hqs q h1; omega) _ (Nat.le_refl _), hS]
      exact first_0 u _ _ h0
  · refine ⟨fun x hx => ?_, Or.inr (Or.inl ?_)⟩
    · rw [lost_far hok (fun q hq' => by have := hqs q hq'; omega), hS, hfar x hx]
    · rw [lost_far hok (fun q hq' => by have := hqs q hq'; omega), hS]; exact h0
theorem crash_lay {st : St} {n a : Nat} {mk : Bool} {first : List UInt8} {rs : List (List UInt8)} (hok : StOk st n) (hps : st.ps = []) (hf : first.length = 64) (hr : Wide rs) (ha : a + 1 + rs.length ≤ n) (hmk : mk = Lib.hasPrefix (st.view a) [1])
    (hX : (doAll (st, true) (layActs a mk first rs)).2 = false) (len : Nat → Nat) : Mix st.view (updAll st.view (layActs a mk first rs)) (lost (doAll (st, true) (layActs a mk first rs)).1 len) a rs.length := by
  have hgood := layActs_good (mk := mk) hf hr ha
  have hokX := ok_any _ hok hgood
  obtain ⟨V, hV⟩ : ∃ V, V = updAll st.view (layActs a mk first rs) := ⟨_, rfl⟩
  have LV := lay_view st.view a mk first rs
  rw [← hV] at LV ⊢
  obtain ⟨X, hXe⟩ : ∃ X, X = doAll (st, true) (layActs a mk first rs) := ⟨_, rfl⟩
  rw [← hXe] at hX hokX ⊢
  have hX0 : (doAll (st, true) (puts a [0 :: first.drop 1] ++ ((if mk then [.flush] else []) ++ (puts (a + 1) rs ++ [.flush, .put a first, .flush])))).2 = false := by rw [hXe] at hX; exact hX
  have hX1 : X.1 = (doAll (st, true) (puts a [0 :: first.drop 1] ++ ((if mk then [.flush] else []) ++ (puts (a + 1) rs ++ [.flush, .put a first, .flush])))).1 := by rw [hXe]; rfl
  clear hXe hX
  obtain ⟨Y, hY⟩ : ∃ Y, Y = X.1 := ⟨_, rfl⟩
  rw [← hY] at hX1 hokX ⊢
  clear hY
  obtain ⟨u, hu⟩ : ∃ u, u = first.drop 1 := ⟨_, rfl⟩
  rw [← hu] at hX0 hX1
  have hul : (0 :: u).length = 64 := by rw [hu]; exact unmarked_64 hf
  have hg1 : Do.Good n (.put a (0 :: u)) := ⟨by omega, hul⟩
  have hw0 : ∀ x, st.S.getD x [] = st.view x := fun x => (view_clean hps x).symm
  rcases cut_append hX0 with ⟨h1, h2⟩ | ⟨y1, h1, h2, h3⟩
  · -- cut at the first
    rw [h2] at hX1
    rcases cut_one (x := st) (o := .put a (0 :: u)) with h4 | h4
    · rw [show puts a [0 :: u] = [.put a (0 :: u)] from rfl, h4] at hX1
      subst hX1
      rw [lost_clean hps]
      exact ⟨fun _ _ => rfl, Or.inl rfl⟩
    · rw [show puts a [0 :: u] = [.put a (0 :: u)] from rfl, h4] at h1; cases h1
  rw [h3] at hX1
  have hy1 : y1 = st.did (.put a (0 :: u)) := by
    rcases cut_one (x := st) (o := .put a (0 :: u)) with h4 | h4
    · rw [show puts a [0 :: u] = [.put a (0 :: u)] from rfl, h4] at h1; cases h1
    · rw [show puts a [0 :: u] = [.put a (0 :: u)] from rfl, h4] at h1; exact (congrArg Prod.fst h1).symm
  have hok1 : StOk y1 n := by rw [hy1]; exact hok.did hg1
  have hv1 : y1.view = upd st.view (.put a (0 :: u)) := by rw [hy1]; exact view_did hok hg1
  have hS1 : y1.S = st.S := by rw [hy1]; rfl
  have hp1 : y1.ps = [(a, 0 :: u)] := by rw [hy1]; show st.ps ++ _ = _; rw [hps]; rfl
  clear h1 h3 hX0
  -- the second: a flush, where there was a mark
  have key : Mix st.view V (lost Y len) a rs.length ∨ ∃ y2, StOk y2 n ∧ y2.view = upd st.view (.put a (0 :: u)) ∧ (∀ x, x ≠ a → y2.S.getD x [] = st.view x) ∧ (y2.S.getD a []).getD 0 0 ≠ 1 ∧ (y2.ps = [] ∨ y2.ps = [(a, 0 :: u)]) ∧
      (doAll (y2, true) (puts (a + 1) rs ++ [.flush, .put a first, .flush])).2 = false ∧ Y = (doAll (y2, true) (puts (a + 1) rs ++ [.flush, .put a first, .flush])).1 := by
    cases mk with
    | false =>
      rw [if_neg (by decide), List.nil_append] at h2 hX1
      exact Or.inr ⟨y1, hok1, hv1, fun x _ => by rw [hS1, hw0], by rw [hS1, hw0]; exact no_mark hmk.symm, Or.inr hp1, h2, hX1⟩
    | true =>
      rw [if_pos rfl] at h2 hX1
      rcases cut_append h2 with ⟨g1, g2⟩ | ⟨y2, g1, g2, g3⟩
      · left
        rw [g2] at hX1
        rcases cut_one (x := y1) (o := .flush) with g4 | g4
        · rw [g4] at hX1
          subst hX1
          refine ⟨fun x hx => ?_, ?_⟩
          · rw [lost_far hok1 (fun q hq => by rw [hp1] at hq; simp at hq; subst hq; show a ≠ x; omega), hS1, hw0]
          · by_cases hL : len 0 = 0
            · left
              funext x
              unfold lost
              rw [hp1, hS1, List.length_singleton, Dk.settleTo_succ, Dk.settleTo_zero, List.getD_cons_zero, hL, Dk.put_none _ _ (by rw [hok.len]; show a < n; omega), hw0]
            · right; left
              obtain ⟨L, hLe⟩ : ∃ L, len 0 = L + 1 := ⟨len 0 - 1, by omega⟩
              unfold lost
              rw [hp1, hS1, List.length_singleton, settle_first (qs := []) (by rw [hok.len]; omega) (fun q h => by cases h) (fun q h => by cases h) 0 (Nat.le_refl _), hLe]
              simp
        · rw [g4] at g1; cases g1
      · right
        have e2 : y2 = y1.did .flush := by
          rcases cut_one (x := y1) (o := .flush) with g4 | g4
          · rw [g4] at g1; cases g1
          · rw [g4] at g1; exact (congrArg Prod.fst g1).symm
        have hp2 : y2.ps = [] := by rw [e2]; rfl
        have hv2 : y2.view = upd st.view (.put a (0 :: u)) := by rw [e2, view_did hok1 (o := .flush) trivial, hv1]; rfl
        refine ⟨y2, by rw [e2]; exact hok1.did (o := .flush) trivial, hv2, fun x hx => ?_, ?_, Or.inl hp2, g2, by rw [hX1, g3]⟩
        · rw [← view_clean hp2, hv2]; show (if x = a then _ else _) = _; rw [if_neg hx]
        · rw [← view_clean hp2, hv2]; show (if a = a then _ else _ : List UInt8).getD 0 0 ≠ 1; rw [if_pos rfl]; simp
  rcases key with hk | ⟨y2, hok2, hv2, hS2, h02, hp2, hc2, hY2⟩
  · exact hk
  clear hX1 h2 hp1 hS1 hv1 hok1 hy1
  obtain ⟨qs, z1, z2, z3⟩ := puts_cut rs (a + 1) y2
  have hgp : ∀ o ∈ puts (a + 1) rs, o.Good n := fun o ho => hgood o (by unfold layActs; simp [ho])
  have hokZ := ok_any _ hok2 hgp
  have hz : ∀ y, StOk y n → y.S = y2.S → y.ps = y2.ps ++ qs → Mix st.view V (lost y len) a rs.length := by
    intro y hy hs hp
    refine lost_mix (u := u) hy len hs (fun x hx => hS2 x (by omega)) ?_
    rcases hp2 with h | h
    · right; rw [hp, h, List.nil_append]; exact ⟨z3, h02⟩
    · left; exact ⟨qs, by rw [hp, h]; rfl, z3, h02⟩
  rcases cut_append hc2 with ⟨g1, g2⟩ | ⟨y3, g1, g2, g3⟩
  · rw [hY2, g2]; exact hz _ hokZ z1 z2
  have V3 := view_on (puts (a + 1) rs) hok2 hgp (by rw [g1])
  rw [g1] at z1 z2 hokZ V3
  rw [g3] at hY2
  rcases cut_append (a := [.flush]) (b := [.put a first, .flush]) g2 with ⟨k1, k2⟩ | ⟨y4, k1, k2, k3⟩
  · rcases cut_one (x := y3) (o := .flush) with g4 | g4
    · rw [hY2, show ([.flush, .put a first, .flush] : List Do) = [.flush] ++ [.put a first, .flush] from rfl, k2, g4]; exact hz _ hokZ z1 z2
    · rw [g4] at k1; cases k1
  rw [show ([.flush, .put a first, .flush] : List Do) = [.flush] ++ [.put a first, .flush] from rfl, k3] at hY2
  have e4 : y4 = y3.did .flush := by
    rcases cut_one (x := y3) (o := .flush) with g4 | g4
    · rw [g4] at k1; cases k1
    · rw [g4] at k1; exact (congrArg Prod.fst k1).symm
  have hok4 : StOk y4 n := by rw [e4]; exact hokZ.did (o := .flush) trivial
  have hp4 : y4.ps = [] := by rw [e4]; rfl
  have hv4 : ∀ x, y4.view x = if a + 1 ≤ x ∧ x < a + 1 + rs.length then rs.getD (x - (a + 1)) [] else if x = a then 0 :: u else st.view x := by
    intro x
    rw [e4, view_did hokZ (o := .flush) trivial]
    show y3.view x = _
    rw [V3.2, updAll_puts, hv2]; rfl
  have hva : y4.view a = 0 :: u := by rw [hv4, if_neg (by omega), if_pos rfl]
  have hfar4 : ∀ x, x < a ∨ a + 1 + rs.length ≤ x → y4.view x = st.view x := fun x hx => by rw [hv4, if_neg (by omega), if_neg (by omega)]
  rcases cut_append (a := [.put a first]) (b := [.flush]) k2 with ⟨m1, m2⟩ | ⟨y5, m1, m2, m3⟩
  · rcases cut_one (x := y4) (o := .put a first) with g4 | g4
    · rw [hY2, show ([.put a first, .flush] : List Do) = [.put a first] ++ [.flush] from rfl, m2, g4, lost_clean hp4]
      exact ⟨hfar4, Or.inr (Or.inl (by rw [hva]; simp))⟩
    · rw [g4] at m1; cases m1
  rw [show ([.put a first, .flush] : List Do) = [.put a first] ++ [.flush] from rfl, m3] at hY2
  have e5 : y5 = y4.did (.put a first) := by
    rcases cut_one (x := y4) (o := .put a first) with g4 | g4
    · rw [g4] at m1; cases m1
    · rw [g4] at m1; exact (congrArg Prod.fst m1).symm
  have hok5 : StOk y5 n := by rw [e5]; exact hok4.did (o := .put a first) ⟨by omega, hf⟩
  have hp5 : y5.ps = [(a, first)] := by rw [e5]; show y4.ps ++ _ = _; rw [hp4]; rfl
  have hS5 : y5.S = y4.S := by rw [e5]; rfl
  rcases cut_one (x := y5) (o := .flush) with g4 | g4
  · rw [g4] at hY2
    have hY5 : Y = y5 := hY2
    rw [hY5]
    have hout : ∀ x, x ≠ a → lost y5 len x = y4.view x := fun x hx => by
      rw [lost_far hok5 (fun q hq => by rw [hp5] at hq; simp at hq; subst hq; show a ≠ x; exact fun e => hx e.symm), hS5, view_clean hp4]
    have hin : lost y5 len a = first.take (len 0) ++ (0 :: u).drop (len 0) := by
      unfold lost
      rw [hp5, hS5, List.length_singleton, settle_first (qs := []) (by rw [hok4.len]; omega) (fun q h => by cases h) (fun q h => by cases h) 0 (Nat.le_refl _), ← view_clean hp4, hva]
    refine ⟨fun x hx => by rw [hout x (by omega), hfar4 x hx], ?_⟩
    by_cases hL : len 0 = 0
    · right; left
      rw [hin, hL]; simp
    · right; right
      obtain ⟨L, hLe⟩ : ∃ L, len 0 = L + 1 := ⟨len 0 - 1, by omega⟩
      funext x
      rw [LV]
      by_cases hx : x = a
      · rw [if_pos hx, hx, hin, hLe, hu, first_all]
      · rw [if_neg hx, hout x hx, hv4, if_neg hx]
  · rw [g4] at m2; cases m2
end Go.Proofs.YtbljhodnpddpiaaGreatDoor
namespace Go.Proofs.YtbljhodnpddpiaaGreatDoor
open Go.RowKit

theorem lost_wide {n : Nat} {y : St} (hok : StOk y n) (len : Nat → Nat) (x : Nat) (hx : x < n) : (lost y len x).length = 64 := by
  unfold lost
  have hw := Dk.settleTo_wide len hok.wide (fun w hw => by rw [hok.len]; exact hok.wrs w hw) y.ps.length (Nat.le_refl _)
  have hl : x < (Dk.settleTo y.S y.ps len y.ps.length).length := by rw [Dk.length_settleTo, hok.len]; exact hx
  rw [List.getD, List.getElem?_eq_getElem hl]
  exact hw _ (List.getElem_mem hl)
theorem JOn.mixed {W V W' : Nat → List UInt8} {from_ m act ep a k : Nat} {recs : List (List UInt8)} (h : JOn W from_ m act ep recs) (hM : Mix W V W' a k) (ha : a = from_ + act * m + (1 + secsAll recs)) (hroom : a + 1 + k ≤ from_ + act * m + m)
    (hw : ∀ x, from_ ≤ x → x < from_ + 2 * m → (W x).length = 64) (hw' : (W' a).length = 64) : JOn W' from_ m act ep recs ∨ W' = V := by
  rcases hM.here with h0 | h0 | h0
  · left; rw [h0]; exact h
  · left
    have ham : act * m ≤ m := by have : act = 0 ∨ act = 1 := by have := h.a1; omega
                                 rcases this with h1 | h1 <;> rw [h1] <;> omega
    have ho : (from_ + (1 - act) * m < from_ + act * m) ∨ from_ + act * m + m ≤ from_ + (1 - act) * m := by
      have : act = 0 ∨ act = 1 := by have := h.a1; omega
      rcases this with h1 | h1 <;> rw [h1]
      · right; omega
      · left; have := h.used; omega
    obtain ⟨tail, ht, hn⟩ := h.text
    obtain ⟨E', hE, hlt⟩ := h.other
    obtain ⟨b, hb⟩ : ∃ b, b = from_ + act * m := ⟨_, rfl⟩
    rw [← hb] at ha hroom ht ho
    refine ⟨h.a1, h.e1, h.e2, h.used, by rw [hM.far _ (Or.inl (by omega))]; exact h.head, ?_, ⟨E', by rw [hM.far _ (by omega)]; exact hE, hlt⟩, h.few⟩
    rw [← hb]
    obtain ⟨q, hq⟩ : ∃ q, q = m - 1 - secsAll recs - 1 := ⟨_, rfl⟩
    have e1 : m - 1 = secsAll recs + (1 + q) := by omega
    have p1 : vt W' (b + 1) (secsAll recs) = packs ep 1 recs := by
      rw [vt_congr (W := W) (fun x _ h2 => hM.far x (Or.inl (by omega)))]
      have := congrArg (List.take (64 * secsAll recs)) ht
      rw [e1, vt_add, List.take_left' (length_vt (fun x h1 h2 => hw x (by omega) (by omega))), List.take_left' (length_packs _ _ _)] at this
      exact this
    refine ⟨vt W' (b + 1 + secsAll recs) (1 + q), by rw [e1, vt_add, p1], Or.inr ?_⟩
    rw [vt_add, show vt W' (b + 1 + secsAll recs) 1 = W' a by rw [vt_succ, vt_zero, ha]; simp [Nat.add_assoc], List.getD, List.getElem?_append_left (by omega), ← List.getD]
    exact h0
  · exact Or.inr h0
theorem JOn.mixed_anew {W V W' : Nat → List UInt8} {from_ m act ep a k : Nat} {recs : List (List UInt8)} (h : JOn W from_ m act ep recs) (hM : Mix W V W' a k) (ha : a = from_ + (1 - act) * m) (hroom : 1 + k ≤ m) : JOn W' from_ m act ep recs ∨ W' = V := by
  rcases hM.here with h0 | h0 | h0
  · left; rw [h0]; exact h
  · left
    have ho : (from_ + act * m + m ≤ from_ + (1 - act) * m) ∨ from_ + (1 - act) * m + m ≤ from_ + act * m := by
      have : act = 0 ∨ act = 1 := by have := h.a1; omega
      rcases this with h1 | h1 <;> rw [h1]
      · left; omega
      · right; omega
    rw [← ha] at ho
    obtain ⟨tail, ht, hn⟩ := h.text
    obtain ⟨E', hE, hlt⟩ := h.other
    have hu := h.used
    refine ⟨h.a1, h.e1, h.e2, h.used, by rw [hM.far _ (by omega)]; exact h.head, ⟨tail, ?_, hn⟩, ⟨0, ?_, h.e1⟩, h.few⟩
    · rw [vt_congr (W := W) (fun x h1 h2 => hM.far x (by omega))]; exact ht
    · rw [← ha]; exact Or.inl ⟨Or.inr (by rw [bs_list]; exact h0), rfl⟩
  · exact Or.inr h0
end Go.Proofs.YtbljhodnpddpiaaGreatDoor

/- Laying records when the power goes by the way. -/
namespace Go.Proofs.YtbljhodnpddpiaaGreatDoor
open Go.RowKit

/-- An error of the journal's that wraps one of the disk's. -/
def WrapAt (g g' : Nat) (w : World) : Prop := w.heap[g']? = some (.cells [Value.int .i64 10, .int .i64 0, faultV g].toArray 95 (0, 0)) ∧ FaultAt g 10 0 w
theorem lay_cut (d p n : Nat) (F : List Nat) (st : St) (from_ m half at_ : Nat) (first : List UInt8) (rest : List (List UInt8)) (hfirst : first.length = 64) (hrest : Wide rest) (hm : from_ + 2 * m ≤ n) (hn : n ≤ 8192) (hh : half ≤ 1) (hat : at_ + 1 + rest.length ≤ m)
    (more : List (List UInt8)) (hmore : more = if at_ + 1 + rest.length < m then [z64] else []) (a : Nat) (hae : a = from_ + half * m + at_) (w : World) (h : Dsk d p n F st true w) (hf : st.Fit (rest.length + 6)) (mk : Bool) (hmk : mk = Lib.hasPrefix (Dk.readAt st.S st.ps a) [1]) (X : St × Bool) (hX : X = doAll (st, true) (layActs a mk first (rest ++ more))) (hX2 : X.2 = false) (hW : WrapC p F w) :
    Calls Tryz.prog 69 #[rowV d from_ m, .int .i64 half, .int .i64 at_, .string (bs (first ++ rest.flatten))] w fun e w' => ∃ F' g g', e = .returned (faultV g') ∧ WrapAt g g' w' ∧ w.heap.size ≤ g' ∧ Dsk d p n F' X.1 false w' ∧ Mv [p] F F' w w' := by
  refine (lay_any d p n F st from_ m half at_ first rest hfirst hrest hm hn hh hat more hmore a hae w h hf mk hmk X hX (Or.inr hW)).mono ?_
  rintro e w' ⟨F', h1, h2, ⟨h3, _⟩ | ⟨_, g, g', hg, rfl, hh, hf⟩⟩
  · rw [hX2] at h3; cases h3
  · exact ⟨F', g, g', rfl, ⟨hh, hf⟩, hg, by rw [← hX2]; exact h1, h2⟩
theorem closed_cut {d p n : Nat} {F F2 : List Nat} {st : St} {j from_ m a0 e0 n0 u0 g g2 : Nat} {w w1 w2 : World} (hU : Below w.heap.size w w1) (hjl : j < w.heap.size) (hD : Dsk d p n F2 st false w2) (hJ : JAt j d from_ m a0 e0 n0 u0 false w2)
    (hM : Mv [p] F F2 w1.drew w2) (hjF : j ∉ F) (hjp : j ≠ p) (hA : WrapAt g g2 w2) (hg : w1.drew.heap.size ≤ g2) :
    WrapAt g g2 (w2.setCell ⟨j, 7, none⟩ (.bool true)) ∧ w.heap.size ≤ g2 ∧ Dsk d p n F2 st false (w2.setCell ⟨j, 7, none⟩ (.bool true)) ∧
    JAt j d from_ m a0 e0 n0 u0 true (w2.setCell ⟨j, 7, none⟩ (.bool true)) ∧ Mv [p, j] F F2 w (w2.setCell ⟨j, 7, none⟩ (.bool true)) := by
  obtain ⟨w4, hw4⟩ : ∃ z, z = w2.setCell ⟨j, 7, none⟩ (.bool true) := ⟨_, rfl⟩
  have k : Kept w2.heap.size [j] w2 w4 := by rw [hw4]; exact (Kept.refl _ _ _).setCell (p := ⟨j, 7, none⟩) (by simp) _
  have hj4 : JAt j d from_ m a0 e0 n0 u0 true w4 := by rw [hw4]; exact set_list hJ 7 _
  rw [← hw4]
  have hz1 : w1.drew.heap.size = w1.heap.size := rfl
  have hzU := hU.size
  have hF2 : ∀ x ∈ F2, x ≠ j := fun x hx => by
    rcases hM.foot x hx with h1 | h1
    · exact fun e => hjF (e ▸ h1)
    · rw [hz1] at h1; omega
  have hgj : g ≠ j := by
    rintro rfl
    have h1 := hA.2
    unfold FaultAt at h1
    unfold JAt at hJ
    rw [hJ] at h1
    simp at h1
  have hg2j : g2 ≠ j := by rw [hz1] at hg; omega
  refine ⟨⟨(k.block g2 (lt_of_heap hA.1) (by simpa using hg2j)).trans hA.1, hA.2.keep (k.block g hA.2.lt (by simpa using hgj))⟩, by rw [hz1] at hg; omega, hD.keep k (by simp; exact Ne.symm hjp) (fun x hx hm => by have := hF2 x hx; simp at hm; omega), hj4, ⟨?_, fun x hx => ?_⟩⟩
  · refine (Kept.of_below (hU.drew)).trans ((hM.kept.mono (by rw [hz1]; exact hzU) (fun x _ hm => ?_)).trans (k.mono (Nat.le_trans hzU (by have := hM.size; rw [hz1] at this; exact this)) (fun x hx hm => ?_)))
    · rcases List.mem_append.1 hm with h1 | h1
      · simp at h1; simp [h1]
      · simp [h1]
    · simp at hm; simp [hm]
  · rcases hM.foot x hx with h1 | h1
    · exact Or.inl h1
    · rw [hz1] at h1; exact Or.inr (by omega)
set_option maxRecDepth 100000 in
set_option maxHeartbeats 2000000 in
theorem reach_cut (d p n : Nat) (F : List Nat) (st : St) (from_ m act ep num used : Nat) (j a0 e0 n0 u0 : Nat) (v : Value) (l : List (List UInt8)) (first : List UInt8) (rest : List (List UInt8)) (hfirst : first.length = 64) (hrest : Wide rest) (hpk : first ++ rest.flatten = packs ep num l)
    (hm : from_ + 2 * m ≤ n) (hn : n ≤ 8192) (hh : act ≤ 1) (hat : used + 1 + rest.length ≤ m) (hep : ep ≤ 4611686018427387904) (hnum : num + l.length ≤ 100000) (hl : ∀ q ∈ l, q.length ≤ 60000)
    (more : List (List UInt8)) (hmore : more = if used + 1 + rest.length < m then [z64] else []) (a : Nat) (hae : a = from_ + act * m + used) (w : World) (h : Dsk d p n F st true w) (hf : st.Fit (rest.length + 6)) (mk : Bool) (hmk : mk = Lib.hasPrefix (Dk.readAt st.S st.ps a) [1]) (X : St × Bool) (hX : X = doAll (st, true) (layActs a mk first (rest ++ more))) (hX2 : X.2 = false) (hW : WrapC p F w)
    (hj : JAt j d from_ m a0 e0 n0 u0 false w) (hjF : j ∉ F) (hjp : j ≠ p) (hT : Texts v l w) :
    Calls Tryz.prog 48 #[.pointer (some ⟨j, 0, none⟩), .agg (stV act ep num used).toArray, v] w fun e w' => ∃ F' g g', e = .returned (faultV g') ∧ WrapAt g g' w' ∧ w.heap.size ≤ g' ∧ Dsk d p n F' X.1 false w' ∧ JAt j d from_ m a0 e0 n0 u0 true w' ∧ Mv [p, j] F F' w w' := by
  have hsec : 64 * secsAll l = 64 * (1 + rest.length) := by
    have := congrArg List.length hpk
    rw [length_packs, List.length_append, hfirst, hrest.flat] at this
    omega
  obtain ⟨vb, vc, rfl⟩ := hT.slice
  obtain ⟨T, hTe⟩ : ∃ T, T = bs (packs ep num l) := ⟨_, rfl⟩
  have hTs : T.size = 64 * (1 + rest.length) := by rw [hTe, bs_size, length_packs, hsec]
  have q64 : (T.size : Int) / 64 = 1 + (rest.length : Int) := by omega
  have hjl := hj.lt
  have HJ := Lib.hid hj
  have HT := Lib.hid hT
  have HD := Lib.hid h
  have HTE := Lib.hid hTe
  have CPK := Lib.hid (fun (v : World) (hb : Below w.heap.size w v) => packed_is ep num (.slice vb l.length vc) l hep (by omega) hl (by omega) v (hT.below (Nat.le_refl _) hb))
  rw [← hTe] at CPK
  have CL := Lib.hid (fun (v : World) (hv : Dsk d p n F st true v) (hw : WrapC p F v) => lay_cut d p n F st from_ m act used first rest hfirst hrest hm hn hh hat more hmore a hae v hv hf mk hmk X hX hX2 hw)
  rw [hpk, ← hTe] at CL
  unfold rowV faultV at CL
  clear hj hT h hTe hpk hfirst hrest hl hmore hae hf hmk hX hX2
  have HWC := Lib.hid hW
  clear hW
  unfold stV
  go_enter Tryz.func48, Tryz.ntmps48
  go_wp2_with (first | (go_at_call 68; refine (CPK.out _ ((Below.refl _ _).alloc (Nat.le_refl _) _)).mono ?_; rintro e w1 ⟨rfl, hb1⟩; have HB1 := Lib.hid hb1; clear hb1) | fail)
  obtain ⟨b, hb⟩ : ∃ b, b = w.heap.size := ⟨_, rfl⟩
  rw [← hb]
  have hs0 : (w.alloc (.cells (stV act ep num used).toArray 79)).heap[b]? = some (.cells (stV act ep num used).toArray 79 (0, 0)) := by rw [hb]; exact heap_alloc_new _ _
  have HS1 := Lib.hid ((HB1.out.block b (by rw [hb]; simp)).trans hs0)
  have hU1 : Below w.heap.size w w1 := ((Below.refl _ _).alloc (Nat.le_refl _) _).trans (HB1.out.mono (by simp))
  have HU1 := Lib.hid hU1
  have HWC1 := Lib.hid ((HWC.out.mv (Mv.below _ _ hU1)).mv (Mv.below _ _ (Below.refl _ _).drew))
  have HJ1 := Lib.hid (HJ.out.keep (hU1.block j hjl))
  have HD1 := Lib.hid ((HD.out.below hU1).below (Below.refl _ _).drew)
  have hFl := HD.out.Flt
  have hpl := HD.out.pow.lt
  have hbF : b ∉ F := fun hm => by have := hFl b hm; omega
  have hbp : b ≠ p := by omega
  have hjb : j ≠ b := by omega
  obtain ⟨c0, c1, c2, c3, c4, c5, c6, c7⟩ := HJ1.out.cells
  have S1 : (w1.drew.cell? ⟨j, 0, none⟩ = some (.pointer (some ⟨d, 0, none⟩)) ∧ w1.drew.cell? ⟨j, 1, none⟩ = some (.int .i64 from_) ∧ w1.drew.cell? ⟨j, 2, none⟩ = some (.int .i64 m)) ∧ w1.drew.cell? ⟨b, 0, none⟩ = some (.int .i64 act) ∧ w1.drew.cell? ⟨b, 3, none⟩ = some (.int .i64 used) :=
    ⟨⟨c0, c1, c2⟩, (by show w1.cell? _ = _; rw [cell_of_list HS1.out]; rfl), (by show w1.cell? _ = _; rw [cell_of_list HS1.out]; rfl)⟩
  have HBE := Lib.hid hb
  have HBL := Lib.hid (show w.heap.size < w1.heap.size by have := lt_of_heap HS1.out; omega)
  clear HB1 hs0 hU1 c0 c1 c2 c3 c4 c5 c6 c7 hFl hpl hb
  go_region_held_law (fun v => (v.cell? ⟨j, 0, none⟩ = some (.pointer (some ⟨d, 0, none⟩)) ∧ v.cell? ⟨j, 1, none⟩ = some (.int .i64 from_) ∧ v.cell? ⟨j, 2, none⟩ = some (.int .i64 m)) ∧ v.cell? ⟨b, 0, none⟩ = some (.int .i64 act) ∧ v.cell? ⟨b, 3, none⟩ = some (.int .i64 used)) (first | exact S1 | exact S2) (first | (go_simp; go_at_call 69; (with_reducible refine (CL.out _ HD1.out HWC1.out).mono ?_); rintro e w2 ⟨F2, g, g2, rfl, hwa, hg2, hD2, hM2⟩; have HWA := Lib.hid hwa; have HG2 := Lib.hid hg2; clear hwa hg2; have HJ2 := Lib.hid (HJ1.out.keep (hM2.block (show j < w1.drew.heap.size from HJ1.out.lt) (by simpa using hjp) hjF)); have HS2 := Lib.hid ((hM2.block (show b < w1.drew.heap.size from lt_of_heap HS1.out) (by simpa using hbp) hbF).trans (show w1.drew.heap[b]? = _ from HS1.out)); have HD2 := Lib.hid hD2; have HM2 := Lib.hid hM2; clear hD2 hM2; have S2 := (show (w2.cell? ⟨j, 0, none⟩ = some (.pointer (some ⟨d, 0, none⟩)) ∧ w2.cell? ⟨j, 1, none⟩ = some (.int .i64 from_) ∧ w2.cell? ⟨j, 2, none⟩ = some (.int .i64 m)) ∧ w2.cell? ⟨b, 0, none⟩ = some (.int .i64 act) ∧ w2.cell? ⟨b, 3, none⟩ = some (.int .i64 used) from ⟨⟨HJ2.out.cells.1, HJ2.out.cells.2.1, HJ2.out.cells.2.2.1⟩, (by rw [cell_of_list HS2.out]; rfl), (by rw [cell_of_list HS2.out]; rfl)⟩)) | fail)
  all_goals
    obtain ⟨c0, c1, c2, c3, c4, c5, c6, c7⟩ := HJ2.out.cells
    have fj := free_of_list HJ2.out
    clear S1 S2
    go_wp2_with fail
    go_ret
    obtain ⟨k1, k2, k3, k4, k5⟩ := closed_cut HU1.out hjl HD2.out HJ2.out HM2.out hjF hjp HWA.out HG2.out
    exact ⟨F2, g, g2, rfl, k1, k2, k3, k4, k5⟩
end Go.Proofs.YtbljhodnpddpiaaGreatDoor
