/- What a disk holds when its power has gone while records were laid, whatever was lost: what was there, or all that is new, or a first sector that is none. -/
import Derived.Test.YtfancfladdecjaaGreatDoorJView
namespace Go.Proofs.YtfancfladdecjaaGreatDoor
open Go.RowKit

theorem cut_append {x : St} {a b : List Do} (h : (doAll (x, true) (a ++ b)).2 = false) :
    ((doAll (x, true) a).2 = false ∧ (doAll (x, true) (a ++ b)).1 = (doAll (x, true) a).1) ∨ ∃ y, doAll (x, true) a = (y, true) ∧ (doAll (y, true) b).2 = false ∧ (doAll (x, true) (a ++ b)).1 = (doAll (y, true) b).1 := by
  rw [doAll_append] at h ⊢
  obtain ⟨⟨y, o⟩, hy⟩ : ∃ z, z = doAll (x, true) a := ⟨_, rfl⟩
  rw [← hy] at h ⊢
  cases o with
  | false => exact Or.inl ⟨rfl, by rw [doAll_off]⟩
  | true => exact Or.inr ⟨y, rfl, h, rfl⟩
theorem cut_one {x : St} {o : Do} : (doAll (x, true) [o] = (x, false)) ∨ doAll (x, true) [o] = (x.did o, true) := by
  by_cases h0 : x.fuse = 0
  · left; rw [doAll_cons, does_cut h0]; rfl
  · right; rw [doAll_cons, does_on h0]; rfl
theorem puts_cut (ss : List (List UInt8)) : ∀ (b : Nat) (st : St), ∃ qs, (doAll (st, true) (puts b ss)).1.S = st.S ∧ (doAll (st, true) (puts b ss)).1.ps = st.ps ++ qs ∧ ∀ x ∈ qs, b ≤ x.1 ∧ x.1 < b + ss.length := by
  induction ss with
  | nil => intro b st; exact ⟨[], rfl, by simp [puts, doAll], by simp⟩
  | cons s ss ih =>
    intro b st
    rw [show puts b (s :: ss) = .put b s :: puts (b + 1) ss from rfl, doAll_cons]
    by_cases h0 : st.fuse = 0
    · rw [does_cut h0, doAll_off]; exact ⟨[], rfl, by simp, by simp⟩
    · rw [does_on h0]
      obtain ⟨qs, h1, h2, h3⟩ := ih (b + 1) (st.did (.put b s))
      refine ⟨(b, s) :: qs, h1, ?_, ?_⟩
      · rw [h2]; show (st.ps ++ [(b, s)]) ++ qs = _; simp
      · intro x hx
        rw [List.length_cons]
        rcases List.mem_cons.1 hx with rfl | hx
        · exact ⟨Nat.le_refl _, by show b < _; omega⟩
        · have := h3 x hx; omega
theorem view_on {n : Nat} (os : List Do) : ∀ {st : St} (_ : StOk st n) (_ : ∀ o ∈ os, o.Good n) (_ : (doAll (st, true) os).2 = true), StOk (doAll (st, true) os).1 n ∧ (doAll (st, true) os).1.view = updAll st.view os := by
  induction os with
  | nil => intro st h _ _; exact ⟨h, rfl⟩
  | cons o os ih =>
    intro st h ho hf
    have hg := ho o (List.mem_cons_self ..)
    rw [doAll_cons] at hf ⊢
    by_cases h0 : st.fuse = 0
    · rw [does_cut h0, doAll_off] at hf; cases hf
    · rw [does_on h0] at hf ⊢
      obtain ⟨h3, h4⟩ := ih (h.did hg) (fun o ho' => ho o (List.mem_cons_of_mem _ ho')) hf
      refine ⟨h3, ?_⟩
      rw [h4, view_did h hg]; rfl
theorem ok_any {n : Nat} (os : List Do) : ∀ {st : St} (_ : StOk st n) (_ : ∀ o ∈ os, o.Good n), StOk (doAll (st, true) os).1 n := by
  induction os with
  | nil => intro st h _; exact h
  | cons o os ih =>
    intro st h ho
    have hg := ho o (List.mem_cons_self ..)
    rw [doAll_cons]
    by_cases h0 : st.fuse = 0
    · rw [does_cut h0, doAll_off]; exact h
    · rw [does_on h0]
      exact ih (h.did hg) (fun o ho' => ho o (List.mem_cons_of_mem _ ho'))
/-- What stands on the sectors when of each pending write so many bytes have come. -/
def lost (st : St) (len : Nat → Nat) (x : Nat) : List UInt8 := (Dk.settleTo st.S st.ps len st.ps.length).getD x []
theorem settle_far {S : List (List UInt8)} {ps : List Dk.Wr} {len : Nat → Nat} {x : Nat} (hp : ∀ q ∈ ps, q.1 < S.length) (h : ∀ q ∈ ps, q.1 ≠ x) (j : Nat) (hj : j ≤ ps.length) : (Dk.settleTo S ps len j).getD x [] = S.getD x [] := by
  induction j with
  | zero => rw [Dk.settleTo_zero]
  | succ j ih =>
    have hm := Dk.getD_mem_of_lt (ps := ps) (j := j) (by omega)
    rw [Dk.settleTo_succ, Dk.put_at _ _ _ _ (by rw [Dk.length_settleTo]; exact hp _ hm), if_neg (fun e => h _ hm e.symm), ih (by omega)]
theorem settle_first {S : List (List UInt8)} {a : Nat} {s : List UInt8} {qs : List Dk.Wr} {len : Nat → Nat} (ha : a < S.length) (hp : ∀ q ∈ qs, q.1 < S.length) (h : ∀ q ∈ qs, q.1 ≠ a) (j : Nat) (hj : j ≤ qs.length) : (Dk.settleTo S ((a, s) :: qs) len (j + 1)).getD a [] = s.take (len 0) ++ (S.getD a []).drop (len 0) := by
  induction j with
  | zero =>
    rw [Dk.settleTo_succ, Dk.settleTo_zero, List.getD_cons_zero, Dk.put_at _ _ _ _ (by exact ha), if_pos rfl]
  | succ j ih =>
    have hm := Dk.getD_mem_of_lt (ps := qs) (j := j) (by omega)
    rw [Dk.settleTo_succ, List.getD_cons_succ, Dk.put_at _ _ _ _ (by rw [Dk.length_settleTo]; exact hp _ hm), if_neg (fun e => h _ hm e.symm), ih (by omega)]
theorem lost_clean {st : St} (h : st.ps = []) (len : Nat → Nat) : lost st len = st.view := by
  funext x
  unfold lost St.view
  rw [h, Dk.readAt_nil, List.length_nil, Dk.settleTo_zero]
theorem lost_far {st : St} {n : Nat} (hok : StOk st n) {len : Nat → Nat} {x : Nat} (h : ∀ q ∈ st.ps, q.1 ≠ x) : lost st len x = st.S.getD x [] :=
  settle_far (fun q hq => by rw [hok.len]; exact (hok.wrs q hq).1) h _ (Nat.le_refl _)
theorem view_clean {st : St} (h : st.ps = []) (x : Nat) : st.view x = st.S.getD x [] := by
  unfold St.view; rw [h, Dk.readAt_nil]
theorem first_0 (u old : List UInt8) (L : Nat) (hold : old.getD 0 0 ≠ 1) : ((0 :: u).take L ++ old.drop L).getD 0 0 ≠ (1 : UInt8) := by
  cases L with
  | zero => exact hold
  | succ L => simp
theorem first_all (first : List UInt8) (L : Nat) : first.take (L + 1) ++ (0 :: first.drop 1).drop (L + 1) = first := by
  rw [List.drop_succ_cons, List.drop_drop, Nat.add_comm 1 L, List.take_append_drop]
theorem no_mark {l : List UInt8} (h : Lib.hasPrefix l [1] = false) : l.getD 0 0 ≠ 1 := by
  cases l with
  | nil => decide
  | cons b l =>
    rintro h1
    have : b = 1 := by simpa using h1
    subst this
    simp [Lib.hasPrefix] at h
/-- What may stand there. -/
structure Mix (W V W' : Nat → List UInt8) (a k : Nat) : Prop where
  far : ∀ x, x < a ∨ a + 1 + k ≤ x → W' x = W x
  here : W' = W ∨ (W' a).getD 0 0 ≠ 1 ∨ W' = V
theorem lost_mix {n : Nat} {S : List (List UInt8)} {W V : Nat → List UInt8} {a k : Nat} {u : List UInt8} {y : St} (hok : StOk y n) (len : Nat → Nat) (hS : y.S = S) (hfar : ∀ x, x < a ∨ a + 1 + k ≤ x → S.getD x [] = W x)
    (h : (∃ qs, y.ps = (a, 0 :: u) :: qs ∧ (∀ q ∈ qs, a + 1 ≤ q.1 ∧ q.1 < a + 1 + k) ∧ (S.getD a []).getD 0 0 ≠ 1) ∨ ((∀ q ∈ y.ps, a + 1 ≤ q.1 ∧ q.1 < a + 1 + k) ∧ (S.getD a []).getD 0 0 ≠ 1)) : Mix W V (lost y len) a k := by
  rcases h with ⟨qs, hq, hqs, h0⟩ | ⟨hqs, h0⟩
  · refine ⟨fun x hx => ?_, Or.inr (Or.inl ?_)⟩
    · rw [lost_far hok (fun q hq' => ?_), hS, hfar x hx]
      rw [hq] at hq'
      rcases List.mem_cons.1 hq' with rfl | h1
      · show a ≠ x; omega
      · have := hqs q h1; omega
    · unfold lost
      have hw := hok.wrs
      rw [hq] at hw
      have ha := hw _ (List.mem_cons_self ..)
      rw [hq, List.length_cons, settle_first (by rw [hok.len]; exact ha.1) (fun q h1 => by rw [hok.len]; exact (hw q (List.mem_cons_of_mem _ h1)).1) (fun q h1 => by have := hqs q h1; omega) _ (Nat.le_refl _), hS]
      exact first_0 u _ _ h0
  · refine ⟨fun x hx => ?_, Or.inr (Or.inl ?_)⟩
    · rw [lost_far hok (fun q hq' => by have := hqs q hq'; omega), hS, hfar x hx]
    · rw [lost_far hok (fun q hq' => by have := hqs q hq'; omega), hS]; exact h0
theorem crash_lay {st : St} {n a : Nat} {mk : Bool} {first : List UInt8} {rs : List (List UInt8)} (hok : StOk st n) (hps : st.ps = []) (hf : first.length = 64) (hr : Wide rs) (ha : a + 1 + rs.length ≤ n) (hmk : mk = Lib.hasPrefix (st.view a) [1])
    (hX : (doAll (st, true) (layActs a mk first rs)).2 = false) (len : Nat → Nat) : Mix st.view (updAll st.view (layActs a mk first rs)) (lost (doAll (st, true) (layActs a mk first rs)).1 len) a rs.length := by
  have hgood := layActs_good (mk := mk) hf hr ha
  have hokX := ok_any _ hok hgood
  obtain ⟨V, hV⟩ : ∃ V, V = updAll st.view (layActs a mk first rs) := ⟨_, rfl⟩
  have LV := lay_view st.view a mk first rs
  rw [← hV] at LV ⊢
  obtain ⟨X, hXe⟩ : ∃ X, X = doAll (st, true) (layActs a mk first rs) := ⟨_, rfl⟩
  rw [← hXe] at hX hokX ⊢
  have hX0 : (doAll (st, true) (puts a [0 :: first.drop 1] ++ ((if mk then [.flush] else []) ++ (puts (a + 1) rs ++ [.flush, .put a first, .flush])))).2 = false := by rw [hXe] at hX; exact hX
  have hX1 : X.1 = (doAll (st, true) (puts a [0 :: first.drop 1] ++ ((if mk then [.flush] else []) ++ (puts (a + 1) rs ++ [.flush, .put a first, .flush])))).1 := by rw [hXe]; rfl
  clear hXe hX
  obtain ⟨Y, hY⟩ : ∃ Y, Y = X.1 := ⟨_, rfl⟩
  rw [← hY] at hX1 hokX ⊢
  clear hY
  obtain ⟨u, hu⟩ : ∃ u, u = first.drop 1 := ⟨_, rfl⟩
  rw [← hu] at hX0 hX1
  have hul : (0 :: u).length = 64 := by rw [hu]; exact unmarked_64 hf
  have hg1 : Do.Good n (.put a (0 :: u)) := ⟨by omega, hul⟩
  have hw0 : ∀ x, st.S.getD x [] = st.view x := fun x => (view_clean hps x).symm
  rcases cut_append hX0 with ⟨h1, h2⟩ | ⟨y1, h1, h2, h3⟩
  · -- cut at the first
    rw [h2] at hX1
    rcases cut_one (x := st) (o := .put a (0 :: u)) with h4 | h4
    · rw [show puts a [0 :: u] = [.put a (0 :: u)] from rfl, h4] at hX1
      subst hX1
      rw [lost_clean hps]
      exact ⟨fun _ _ => rfl, Or.inl rfl⟩
    · rw [show puts a [0 :: u] = [.put a (0 :: u)] from rfl, h4] at h1; cases h1
  rw [h3] at hX1
  have hy1 : y1 = st.did (.put a (0 :: u)) := by
    rcases cut_one (x := st) (o := .put a (0 :: u)) with h4 | h4
    · rw [show puts a [0 :: u] = [.put a (0 :: u)] from rfl, h4] at h1; cases h1
    · rw [show puts a [0 :: u] = [.put a (0 :: u)] from rfl, h4] at h1; exact (congrArg Prod.fst h1).symm
  have hok1 : StOk y1 n := by rw [hy1]; exact hok.did hg1
  have hv1 : y1.view = upd st.view (.put a (0 :: u)) := by rw [hy1]; exact view_did hok hg1
  have hS1 : y1.S = st.S := by rw [hy1]; rfl
  have hp1 : y1.ps = [(a, 0 :: u)] := by rw [hy1]; show st.ps ++ _ = _; rw [hps]; rfl
  clear h1 h3 hX0
  -- the second: a flush, where there was a mark
  have key : Mix st.view V (lost Y len) a rs.length ∨ ∃ y2, StOk y2 n ∧ y2.view = upd st.view (.put a (0 :: u)) ∧ (∀ x, x ≠ a → y2.S.getD x [] = st.view x) ∧ (y2.S.getD a []).getD 0 0 ≠ 1 ∧ (y2.ps = [] ∨ y2.ps = [(a, 0 :: u)]) ∧
      (doAll (y2, true) (puts (a + 1) rs ++ [.flush, .put a first, .flush])).2 = false ∧ Y = (doAll (y2, true) (puts (a + 1) rs ++ [.flush, .put a first, .flush])).1 := by
    cases mk with
    | false =>
      rw [if_neg (by decide), List.nil_append] at h2 hX1
      exact Or.inr ⟨y1, hok1, hv1, fun x _ => by rw [hS1, hw0], by rw [hS1, hw0]; exact no_mark hmk.symm, Or.inr hp1, h2, hX1⟩
    | true =>
      rw [if_pos rfl] at h2 hX1
      rcases cut_append h2 with ⟨g1, g2⟩ | ⟨y2, g1, g2, g3⟩
      · left
        rw [g2] at hX1
        rcases cut_one (x := y1) (o := .flush) with g4 | g4
        · rw [g4] at hX1
          subst hX1
          refine ⟨fun x hx => ?_, ?_⟩
          · rw [lost_far hok1 (fun q hq => by rw [hp1] at hq; simp at hq; subst hq; show a ≠ x; omega), hS1, hw0]
          · by_cases hL : len 0 = 0
            · left
              funext x
              unfold lost
              rw [hp1, hS1, List.length_singleton, Dk.settleTo_succ, Dk.settleTo_zero, List.getD_cons_zero, hL, Dk.put_none _ _ (by rw [hok.len]; show a < n; omega), hw0]
            · right; left
              obtain ⟨L, hLe⟩ : ∃ L, len 0 = L + 1 := ⟨len 0 - 1, by omega⟩
              unfold lost
              rw [hp1, hS1, List.length_singleton, settle_first (qs := []) (by rw [hok.len]; omega) (fun q h => by cases h) (fun q h => by cases h) 0 (Nat.le_refl _), hLe]
              simp
        · rw [g4] at g1; cases g1
      · right
        have e2 : y2 = y1.did .flush := by
          rcases cut_one (x := y1) (o := .flush) with g4 | g4
          · rw [g4] at g1; cases g1
          · rw [g4] at g1; exact (congrArg Prod.fst g1).symm
        have hp2 : y2.ps = [] := by rw [e2]; rfl
        have hv2 : y2.view = upd st.view (.put a (0 :: u)) := by rw [e2, view_did hok1 (o := .flush) trivial, hv1]; rfl
        refine ⟨y2, by rw [e2]; exact hok1.did (o := .flush) trivial, hv2, fun x hx => ?_, ?_, Or.inl hp2, g2, by rw [hX1, g3]⟩
        · rw [← view_clean hp2, hv2]; show (if x = a then _ else _) = _; rw [if_neg hx]
        · rw [← view_clean hp2, hv2]; show (if a = a then _ else _ : List UInt8).getD 0 0 ≠ 1; rw [if_pos rfl]; simp
  rcases key with hk | ⟨y2, hok2, hv2, hS2, h02, hp2, hc2, hY2⟩
  · exact hk
  clear hX1 h2 hp1 hS1 hv1 hok1 hy1
  obtain ⟨qs, z1, z2, z3⟩ := puts_cut rs (a + 1) y2
  have hgp : ∀ o ∈ puts (a + 1) rs, o.Good n := fun o ho => hgood o (by unfold layActs; simp [ho])
  have hokZ := ok_any _ hok2 hgp
  have hz : ∀ y, StOk y n → y.S = y2.S → y.ps = y2.ps ++ qs → Mix st.view V (lost y len) a rs.length := by
    intro y hy hs hp
    refine lost_mix (u := u) hy len hs (fun x hx => hS2 x (by omega)) ?_
    rcases hp2 with h | h
    · right; rw [hp, h, List.nil_append]; exact ⟨z3, h02⟩
    · left; exact ⟨qs, by rw [hp, h]; rfl, z3, h02⟩
  rcases cut_append hc2 with ⟨g1, g2⟩ | ⟨y3, g1, g2, g3⟩
  · rw [hY2, g2]; exact hz _ hokZ z1 z2
  have V3 := view_on (puts (a + 1) rs) hok2 hgp (by rw [g1])
  rw [g1] at z1 z2 hokZ V3
  rw [g3] at hY2
  rcases cut_append (a := [.flush]) (b := [.put a first, .flush]) g2 with ⟨k1, k2⟩ | ⟨y4, k1, k2, k3⟩
  · rcases cut_one (x := y3) (o := .flush) with g4 | g4
    · rw [hY2, show ([.flush, .put a first, .flush] : List Do) = [.flush] ++ [.put a first, .flush] from rfl, k2, g4]; exact hz _ hokZ z1 z2
    · rw [g4] at k1; cases k1
  rw [show ([.flush, .put a first, .flush] : List Do) = [.flush] ++ [.put a first, .flush] from rfl, k3] at hY2
  have e4 : y4 = y3.did .flush := by
    rcases cut_one (x := y3) (o := .flush) with g4 | g4
    · rw [g4] at k1; cases k1
    · rw [g4] at k1; exact (congrArg Prod.fst k1).symm
  have hok4 : StOk y4 n := by rw [e4]; exact hokZ.did (o := .flush) trivial
  have hp4 : y4.ps = [] := by rw [e4]; rfl
  have hv4 : ∀ x, y4.view x = if a + 1 ≤ x ∧ x < a + 1 + rs.length then rs.getD (x - (a + 1)) [] else if x = a then 0 :: u else st.view x := by
    intro x
    rw [e4, view_did hokZ (o := .flush) trivial]
    show y3.view x = _
    rw [V3.2, updAll_puts, hv2]; rfl
  have hva : y4.view a = 0 :: u := by rw [hv4, if_neg (by omega), if_pos rfl]
  have hfar4 : ∀ x, x < a ∨ a + 1 + rs.length ≤ x → y4.view x = st.view x := fun x hx => by rw [hv4, if_neg (by omega), if_neg (by omega)]
  rcases cut_append (a := [.put a first]) (b := [.flush]) k2 with ⟨m1, m2⟩ | ⟨y5, m1, m2, m3⟩
  · rcases cut_one (x := y4) (o := .put a first) with g4 | g4
    · rw [hY2, show ([.put a first, .flush] : List Do) = [.put a first] ++ [.flush] from rfl, m2, g4, lost_clean hp4]
      exact ⟨hfar4, Or.inr (Or.inl (by rw [hva]; simp))⟩
    · rw [g4] at m1; cases m1
  rw [show ([.put a first, .flush] : List Do) = [.put a first] ++ [.flush] from rfl, m3] at hY2
  have e5 : y5 = y4.did (.put a first) := by
    rcases cut_one (x := y4) (o := .put a first) with g4 | g4
    · rw [g4] at m1; cases m1
    · rw [g4] at m1; exact (congrArg Prod.fst m1).symm
  have hok5 : StOk y5 n := by rw [e5]; exact hok4.did (o := .put a first) ⟨by omega, hf⟩
  have hp5 : y5.ps = [(a, first)] := by rw [e5]; show y4.ps ++ _ = _; rw [hp4]; rfl
  have hS5 : y5.S = y4.S := by rw [e5]; rfl
  rcases cut_one (x := y5) (o := .flush) with g4 | g4
  · rw [g4] at hY2
    have hY5 : Y = y5 := hY2
    rw [hY5]
    have hout : ∀ x, x ≠ a → lost y5 len x = y4.view x := fun x hx => by
      rw [lost_far hok5 (fun q hq => by rw [hp5] at hq; simp at hq; subst hq; show a ≠ x; exact fun e => hx e.symm), hS5, view_clean hp4]
    have hin : lost y5 len a = first.take (len 0) ++ (0 :: u).drop (len 0) := by
      unfold lost
      rw [hp5, hS5, List.length_singleton, settle_first (qs := []) (by rw [hok4.len]; omega) (fun q h => by cases h) (fun q h => by cases h) 0 (Nat.le_refl _), ← view_clean hp4, hva]
    refine ⟨fun x hx => by rw [hout x (by omega), hfar4 x hx], ?_⟩
    by_cases hL : len 0 = 0
    · right; left
      rw [hin, hL]; simp
    · right; right
      obtain ⟨L, hLe⟩ : ∃ L, len 0 = L + 1 := ⟨len 0 - 1, by omega⟩
      funext x
      rw [LV]
      by_cases hx : x = a
      · rw [if_pos hx, hx, hin, hLe, hu, first_all]
      · rw [if_neg hx, hout x hx, hv4, if_neg hx]
  · rw [g4] at m2; cases m2
end Go.Proofs.YtfancfladdecjaaGreatDoor
namespace Go.Proofs.YtfancfladdecjaaGreatDoor
open Go.RowKit

theorem lost_wide {n : Nat} {y : St} (hok : StOk y n) (len : Nat → Nat) (x : Nat) (hx : x < n) : (lost y len x).length = 64 := by
  unfold lost
  have hw := Dk.settleTo_wide len hok.wide (fun w hw => by rw [hok.len]; exact hok.wrs w hw) y.ps.length (Nat.le_refl _)
  have hl : x < (Dk.settleTo y.S y.ps len y.ps.length).length := by rw [Dk.length_settleTo, hok.len]; exact hx
  rw [List.getD, List.getElem?_eq_getElem hl]
  exact hw _ (List.getElem_mem hl)
theorem JOn.mixed {W V W' : Nat → List UInt8} {from_ m act ep a k : Nat} {recs : List (List UInt8)} (h : JOn W from_ m act ep recs) (hM : Mix W V W' a k) (ha : a = from_ + act * m + (1 + secsAll recs)) (hroom : a + 1 + k ≤ from_ + act * m + m)
    (hw : ∀ x, from_ ≤ x → x < from_ + 2 * m → (W x).length = 64) (hw' : (W' a).length = 64) : JOn W' from_ m act ep recs ∨ W' = V := by
  rcases hM.here with h0 | h0 | h0
  · left; rw [h0]; exact h
  · left
    have ham : act * m ≤ m := by have : act = 0 ∨ act = 1 := by have := h.a1; omega
                                 rcases this with h1 | h1 <;> rw [h1] <;> omega
    have ho : (from_ + (1 - act) * m < from_ + act * m) ∨ from_ + act * m + m ≤ from_ + (1 - act) * m := by
      have : act = 0 ∨ act = 1 := by have := h.a1; omega
      rcases this with h1 | h1 <;> rw [h1]
      · right; omega
      · left; have := h.used; omega
    obtain ⟨tail, ht, hn⟩ := h.text
    obtain ⟨E', hE, hlt⟩ := h.other
    obtain ⟨b, hb⟩ : ∃ b, b = from_ + act * m := ⟨_, rfl⟩
    rw [← hb] at ha hroom ht ho
    refine ⟨h.a1, h.e1, h.e2, h.used, by rw [hM.far _ (Or.inl (by omega))]; exact h.head, ?_, ⟨E', by rw [hM.far _ (by omega)]; exact hE, hlt⟩, h.few⟩
    rw [← hb]
    obtain ⟨q, hq⟩ : ∃ q, q = m - 1 - secsAll recs - 1 := ⟨_, rfl⟩
    have e1 : m - 1 = secsAll recs + (1 + q) := by omega
    have p1 : vt W' (b + 1) (secsAll recs) = packs ep 1 recs := by
      rw [vt_congr (W := W) (fun x _ h2 => hM.far x (Or.inl (by omega)))]
      have := congrArg (List.take (64 * secsAll recs)) ht
      rw [e1, vt_add, List.take_left' (length_vt (fun x h1 h2 => hw x (by omega) (by omega))), List.take_left' (length_packs _ _ _)] at this
      exact this
    refine ⟨vt W' (b + 1 + secsAll recs) (1 + q), by rw [e1, vt_add, p1], Or.inr ?_⟩
    rw [vt_add, show vt W' (b + 1 + secsAll recs) 1 = W' a by rw [vt_succ, vt_zero, ha]; simp [Nat.add_assoc], List.getD, List.getElem?_append_left (by omega), ← List.getD]
    exact h0
  · exact Or.inr h0
theorem JOn.mixed_anew {W V W' : Nat → List UInt8} {from_ m act ep a k : Nat} {recs : List (List UInt8)} (h : JOn W from_ m act ep recs) (hM : Mix W V W' a k) (ha : a = from_ + (1 - act) * m) (hroom : 1 + k ≤ m) : JOn W' from_ m act ep recs ∨ W' = V := by
  rcases hM.here with h0 | h0 | h0
  · left; rw [h0]; exact h
  · left
    have ho : (from_ + act * m + m ≤ from_ + (1 - act) * m) ∨ from_ + (1 - act) * m + m ≤ from_ + act * m := by
      have : act = 0 ∨ act = 1 := by have := h.a1; omega
      rcases this with h1 | h1 <;> rw [h1]
      · left; omega
      · right; omega
    rw [← ha] at ho
    obtain ⟨tail, ht, hn⟩ := h.text
    obtain ⟨E', hE, hlt⟩ := h.other
    have hu := h.used
    refine ⟨h.a1, h.e1, h.e2, h.used, by rw [hM.far _ (by omega)]; exact h.head, ⟨tail, ?_, hn⟩, ⟨0, ?_, h.e1⟩, h.few⟩
    · rw [vt_congr (W := W) (fun x h1 h2 => hM.far x (by omega))]; exact ht
    · rw [← ha]; exact Or.inl ⟨Or.inr (by rw [bs_list]; exact h0), rfl⟩
  · exact Or.inr h0
end Go.Proofs.YtfancfladdecjaaGreatDoor
