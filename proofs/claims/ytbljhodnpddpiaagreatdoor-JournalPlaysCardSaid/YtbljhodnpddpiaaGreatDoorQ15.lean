/- Several texts in one, in the order in which they build: JG1 JCrashW FKnown FLaw1 FRef JR1. -/
import Derived.Test.YtbljhodnpddpiaaGreatDoorQ14
import Derived.Test.YtbljhodnpddpiaaGreatDoorQ13
import Derived.Test.YtbljhodnpddpiaaGreatDoorQ07
/- Append and Reset whatever stands on the sectors, whether the power goes or not; what they leave of the other sectors. -/
namespace Go.Proofs.YtbljhodnpddpiaaGreatDoor
open Go.RowKit

/-- An act within some sectors. -/
def Do.In (A B : Nat) : Do → Prop
  | .put a _ => A ≤ a ∧ a < B
  | .flush => True
/-- Behind acts within a journal's sectors: the others are as they were. -/
structure Outs (from_ m : Nat) (st st' : St) : Prop where
  far : ∀ x, x < from_ ∨ from_ + 2 * m ≤ x → st'.S.getD x [] = st.S.getD x []
  near : ∀ q ∈ st'.ps, from_ ≤ q.1 ∧ q.1 < from_ + 2 * m
theorem outs_did {n from_ m : Nat} {st0 st : St} {o : Do} (h : Outs from_ m st0 st) (hok : StOk st n) (hg : o.In from_ (from_ + 2 * m)) : Outs from_ m st0 (st.did o) := by
  cases o with
  | put a s =>
    refine ⟨h.far, fun q hq => ?_⟩
    rcases List.mem_append.1 hq with h1 | h1
    · exact h.near q h1
    · simp at h1; subst h1; exact hg
  | flush =>
    refine ⟨fun x hx => ?_, fun q hq => by cases hq⟩
    have : (Dk.settleTo st.S st.ps (fun _ => 64) st.ps.length).getD x [] = st.S.getD x [] := settle_far (fun q hq => by rw [hok.len]; exact (hok.wrs q hq).1) (fun q hq => by have := h.near q hq; omega) _ (Nat.le_refl _)
    exact this.trans (h.far x hx)
theorem outs_any {n from_ m : Nat} {st0 : St} (os : List Do) : ∀ {st : St} (_ : Outs from_ m st0 st) (_ : StOk st n) (_ : ∀ o ∈ os, o.Good n) (_ : ∀ o ∈ os, o.In from_ (from_ + 2 * m)), Outs from_ m st0 (doAll (st, true) os).1 := by
  induction os with
  | nil => intro st h _ _ _; exact h
  | cons o os ih =>
    intro st h hok hg hi
    rw [doAll_cons]
    by_cases h0 : st.fuse = 0
    · rw [does_cut h0, doAll_off]; exact h
    · rw [does_on h0]
      have g1 := hg o (List.mem_cons_self ..)
      exact ih (outs_did h hok (hi o (List.mem_cons_self ..))) (hok.did g1) (fun o ho => hg o (List.mem_cons_of_mem _ ho)) (fun o ho => hi o (List.mem_cons_of_mem _ ho))
theorem outs_all {n from_ m : Nat} {st : St} (os : List Do) (hok : StOk st n) (hps : st.ps = []) (hg : ∀ o ∈ os, o.Good n) (hi : ∀ o ∈ os, o.In from_ (from_ + 2 * m)) : Outs from_ m st (doAll (st, true) os).1 :=
  outs_any os ⟨fun _ _ => rfl, fun q hq => by rw [hps] at hq; cases hq⟩ hok hg hi
theorem puts_in {A B : Nat} : ∀ (ss : List (List UInt8)) (b : Nat), A ≤ b → b + ss.length ≤ B → ∀ o ∈ puts b ss, o.In A B := by
  intro ss
  induction ss with
  | nil => intro b _ _ o ho; cases ho
  | cons s ss ih =>
    intro b h1 h2 o ho
    rw [List.length_cons] at h2
    rcases List.mem_cons.1 ho with rfl | ho
    · exact ⟨h1, by omega⟩
    · exact ih (b + 1) (by omega) (by omega) o ho
theorem layActs_in {A B a : Nat} {mk : Bool} {first : List UInt8} {rs : List (List UInt8)} (h1 : A ≤ a) (h2 : a + 1 + rs.length ≤ B) : ∀ o ∈ layActs a mk first rs, o.In A B := by
  intro o ho
  unfold layActs at ho
  rcases List.mem_append.1 ho with h | h
  · exact puts_in _ _ h1 (by rw [List.length_singleton]; omega) o h
  rcases List.mem_append.1 h with h | h
  · cases mk
    · simp at h
    · simp at h; subst h; trivial
  rcases List.mem_append.1 h with h | h
  · exact puts_in _ _ (by omega) (by omega) o h
  · simp at h
    rcases h with rfl | rfl | rfl
    · trivial
    · exact ⟨h1, by omega⟩
    · trivial
/-- What has come of a call that lays records, whatever stood on the sectors. -/
def FusedG (d p n : Nat) (F : List Nat) (j from_ m act ep : Nat) (recs : List (List UInt8)) (act' ep' : Nat) (recs' : List (List UInt8)) (st : St) (w : World) (x : Value) (w' : World) : Prop :=
  ∃ F' st', Mv [p, j] F F' w w' ∧ StOk st' n ∧ (st'.Fit 1000 ∧ st'.acts ≤ st.acts + 10000) ∧ Outs from_ m st st' ∧
   ((x = .nilIface ∧ Dsk d p n F' st' true w' ∧ st'.ps = [] ∧ (JOn st.view from_ m act ep recs → JOn st'.view from_ m act' ep' recs') ∧ JAt j d from_ m act' ep' (1 + recs'.length) (1 + secsAll recs') false w') ∨
    (∃ g g' : Nat, x = faultV g' ∧ WrapAt g g' w' ∧ w.heap.size ≤ g' ∧ Dsk d p n F' st' false w' ∧ JAt j d from_ m act ep (1 + recs.length) (1 + secsAll recs) true w' ∧ (JOn st.view from_ m act ep recs → ∀ len, JOn (lost st' len) from_ m act ep recs ∨ JOn (lost st' len) from_ m act' ep' recs')))
set_option maxHeartbeats 1000000 in
theorem AppendG (d p n : Nat) (F : List Nat) (st : St) (from_ m act ep : Nat) (recs : List (List UInt8)) (j : Nat) (r : List UInt8) (hm : from_ + 2 * m ≤ n) (hr : r.length ≤ 60000) (hfit : 1 + secsAll recs + secs r ≤ m) (w : World) (h : Dsk d p n F st true w) (hFt : st.Fit 10200) (hps : st.ps = [])
    (hJ : JAt j d from_ m act ep (1 + recs.length) (1 + secsAll recs) false w) (ha1 : act ≤ 1) (he2 : ep ≤ 4611686018427387904) (hjF : j ∉ F) (hjp : j ≠ p) (hW : WrapC p F w) :
    Calls Tryz.prog 19 #[.pointer (some ⟨j, 0, none⟩), .string (bs r)] w fun e w' => ∃ x, e = .returned x ∧ FusedG d p n F j from_ m act ep recs act ep (recs ++ [r]) st w x w' := by
  have hn := h.n2
  have hok := h.okk
  have hsp := secs_pos r
  obtain ⟨ss, hss, hsl, hsf⟩ := chop (secs r) (packs ep (1 + recs.length) [r]) (by rw [length_packs, secsAll_cons, secsAll_nil, Nat.add_zero])
  obtain ⟨first, rest, rfl⟩ : ∃ first rest, ss = first :: rest := by
    cases ss with
    | nil => simp at hsl; omega
    | cons a b => exact ⟨a, b, rfl⟩
  have hfirst : first.length = 64 := hss first (List.mem_cons_self ..)
  have hrest : Wide rest := fun s hs => hss s (List.mem_cons_of_mem _ hs)
  rw [List.length_cons] at hsl
  rw [flat_cons] at hsf
  obtain ⟨more, hmore⟩ : ∃ more, more = if 1 + secsAll recs + 1 + rest.length < m then [z64] else [] := ⟨_, rfl⟩
  have hml : more.length ≤ 1 := by rw [hmore]; split <;> simp
  obtain ⟨a, ha⟩ : ∃ a, a = from_ + act * m + (1 + secsAll recs) := ⟨_, rfl⟩
  have ham : act * m ≤ m := by have : act = 0 ∨ act = 1 := by have := ha1; omega
                               rcases this with h0 | h0 <;> rw [h0] <;> omega
  have hmr : a + 1 + (rest ++ more).length ≤ from_ + act * m + m := by
    rw [List.length_append, hmore]; split
    · simp; omega
    · simp; omega
  obtain ⟨mk, hmk⟩ : ∃ mk, mk = Lib.hasPrefix (Dk.readAt st.S st.ps a) [1] := ⟨_, rfl⟩
  have hll := length_le_secsAll recs
  have hwide : Wide (rest ++ more) := fun s hs => by
    rcases List.mem_append.1 hs with h1 | h1
    · exact hrest s h1
    · rw [hmore] at h1; split at h1
      · exact wide_one length_z64 s h1
      · cases h1
  have hgood : ∀ o ∈ layActs a mk first (rest ++ more), o.Good n := layActs_good hfirst hwide (by omega)
  have hlen := length_layActs a mk first (rest ++ more)
  have hW64 : ∀ x, from_ ≤ x → x < from_ + 2 * m → (st.view x).length = 64 := fun x h1 h2 => length_readAt hok.wide (fun y hy => by rw [hok.len]; exact hok.wrs y hy) (by rw [hok.len]; omega)
  have hOut : Outs from_ m st (doAll (st, true) (layActs a mk first (rest ++ more))).1 := outs_all _ hok hps hgood (layActs_in (by omega) (by omega))
  have hA := fun hO : JOn st.view from_ m act ep recs => hO.append r first rest more mk hr hsf hfirst hrest hfit hmore ha hW64
  have hOkX := ok_any _ hok hgood
  have hFX : (doAll (st, true) (layActs a mk first (rest ++ more))).1.Fit 1000 ∧ (doAll (st, true) (layActs a mk first (rest ++ more))).1.acts ≤ st.acts + 10000 := ⟨St.Fit.doAll _ (hFt.less (by omega)) true, by have := (doAll_acts (layActs a mk first (rest ++ more)) st).2; omega⟩
  have e1 : 1 + recs.length + [r].length = 1 + (recs ++ [r]).length := by simp; omega
  have e2 : 1 + secsAll recs + 1 + rest.length = 1 + secsAll (recs ++ [r]) := by rw [secsAll_snoc]; omega
  cases hX2 : (doAll (st, true) (layActs a mk first (rest ++ more))).2 with
  | true =>
    have hV := view_on _ hok hgood hX2
    rw [← hV.2] at hA
    refine Append_walk d from_ m act ep recs j r (by omega) hr hfit w hJ _ (Lib.hid (fun v vv hv hT => ?_))
    refine (reach_ok d p n F st from_ m act ep (1 + recs.length) (1 + secsAll recs) j act ep (1 + recs.length) (1 + secsAll recs) vv [r] first rest hfirst hrest hsf hm hn ha1 (by omega) he2 (by simp; omega) (by intro q hq; simp at hq; rw [hq]; exact hr)
      more hmore a ha v (h.below hv) (hFt.less (by omega)) mk hmk _ rfl hX2 (hJ.keep (hv.block j hJ.lt)) hjF hjp hT).mono ?_
    rintro e w' ⟨rfl, F', hD', hJ', hM'⟩
    rw [e1, e2] at hJ'
    exact ⟨_, rfl, F', _, (Mv.below _ _ hv).trans hM', hOkX, hFX, hOut, Or.inl ⟨rfl, hD', lay_ps hX2, fun hO => (hA hO).1, hJ'⟩⟩
  | false =>
    refine Append_walk d from_ m act ep recs j r (by omega) hr hfit w hJ _ (Lib.hid (fun v vv hv hT => ?_))
    refine (reach_cut d p n F st from_ m act ep (1 + recs.length) (1 + secsAll recs) j act ep (1 + recs.length) (1 + secsAll recs) vv [r] first rest hfirst hrest hsf hm hn ha1 (by omega) he2 (by simp; omega) (by intro q hq; simp at hq; rw [hq]; exact hr)
      more hmore a ha v (h.below hv) (hFt.less (by omega)) mk hmk _ rfl hX2 (hW.mv (Mv.below _ _ hv)) (hJ.keep (hv.block j hJ.lt)) hjF hjp hT).mono ?_
    rintro e w' ⟨F', g, g', rfl, hA', hg', hD', hJ', hM'⟩
    refine ⟨_, rfl, F', _, (Mv.below _ _ hv).trans hM', hOkX, hFX, hOut, Or.inr ⟨g, g', rfl, hA', Nat.le_trans hv.size hg', hD', hJ', fun hO len => ?_⟩⟩
    have hMx := crash_lay hok hps hfirst hwide (by omega) hmk hX2 len
    rcases hO.mixed hMx ha hmr hW64 (lost_wide hOkX len a (by omega)) with h1 | h1
    · exact Or.inl h1
    · right; rw [h1]; exact (hA hO).1
set_option maxHeartbeats 1000000 in
theorem ResetG (d p n : Nat) (F : List Nat) (st : St) (from_ m act ep : Nat) (old recs : List (List UInt8)) (j : Nat) (v : Value) (hm : from_ + 2 * m ≤ n) (hep : ep + 1 ≤ 4611686018427387904) (hr : ∀ r ∈ recs, r.length ≤ 60000) (hfit : 1 + secsAll recs ≤ m) (w : World) (h : Dsk d p n F st true w) (hFt : st.Fit 10200) (hps : st.ps = [])
    (hJ : JAt j d from_ m act ep (1 + old.length) (1 + secsAll old) false w) (hact : act ≤ 1) (hjF : j ∉ F) (hjp : j ≠ p) (hW : WrapC p F w) (hT : Texts v recs w) :
    Calls Tryz.prog 22 #[.pointer (some ⟨j, 0, none⟩), v] w fun e w' => ∃ x, e = .returned x ∧ FusedG d p n F j from_ m act ep old (1 - act) (ep + 1) recs st w x w' := by
  have hn := h.n2
  have hok := h.okk
  have hll := length_le_secsAll recs
  obtain ⟨ss, hss, hsl, hsf⟩ := chop (1 + secsAll recs) (packs (ep + 1) 0 (title :: recs)) (by rw [length_packs, secsAll_cons, title_secs])
  obtain ⟨first, rest, rfl⟩ : ∃ first rest, ss = first :: rest := by
    cases ss with
    | nil => simp at hsl; omega
    | cons a b => exact ⟨a, b, rfl⟩
  have hfirst : first.length = 64 := hss first (List.mem_cons_self ..)
  have hrest : Wide rest := fun s hs => hss s (List.mem_cons_of_mem _ hs)
  rw [List.length_cons] at hsl
  rw [flat_cons] at hsf
  obtain ⟨more, hmore⟩ : ∃ more, more = if 0 + 1 + rest.length < m then [z64] else [] := ⟨_, rfl⟩
  have hml : more.length ≤ 1 := by rw [hmore]; split <;> simp
  obtain ⟨a, ha⟩ : ∃ a, a = from_ + (1 - act) * m + 0 := ⟨_, rfl⟩
  have ham : (1 - act) * m ≤ m := by have : 1 - act = 0 ∨ 1 - act = 1 := by omega
                                     rcases this with h0 | h0 <;> rw [h0] <;> omega
  have hmr0 : 1 + (rest ++ more).length ≤ m := by
    rw [List.length_append, hmore]; split
    · simp; omega
    · simp; omega
  obtain ⟨mk, hmk⟩ : ∃ mk, mk = Lib.hasPrefix (Dk.readAt st.S st.ps a) [1] := ⟨_, rfl⟩
  have hl1 : ∀ q ∈ title :: recs, q.length ≤ 60000 := fun q hq => by
    rcases List.mem_cons.1 hq with rfl | h1
    · decide
    · exact hr q h1
  have hwide : Wide (rest ++ more) := fun s hs => by
    rcases List.mem_append.1 hs with h1 | h1
    · exact hrest s h1
    · rw [hmore] at h1; split at h1
      · exact wide_one length_z64 s h1
      · cases h1
  have hgood : ∀ o ∈ layActs a mk first (rest ++ more), o.Good n := layActs_good hfirst hwide (by omega)
  have hlen := length_layActs a mk first (rest ++ more)
  have hOut : Outs from_ m st (doAll (st, true) (layActs a mk first (rest ++ more))).1 := outs_all _ hok hps hgood (layActs_in (by omega) (by omega))
  have hA := fun hO : JOn st.view from_ m act ep old => JOn.anew (W := st.view) hact hep ⟨ep, by rw [hO.head]; exact epoch_head ep hO.e1 hO.e2, by omega⟩ first rest more mk hr hsf hfirst hrest hfit hmore ha
  have hOkX := ok_any _ hok hgood
  have hFX : (doAll (st, true) (layActs a mk first (rest ++ more))).1.Fit 1000 ∧ (doAll (st, true) (layActs a mk first (rest ++ more))).1.acts ≤ st.acts + 10000 := ⟨St.Fit.doAll _ (hFt.less (by omega)) true, by have := (doAll_acts (layActs a mk first (rest ++ more)) st).2; omega⟩
  have ee1 : 0 + (title :: recs).length = 1 + recs.length := by simp; omega
  have ee2 : 0 + 1 + rest.length = 1 + secsAll recs := by omega
  cases hX2 : (doAll (st, true) (layActs a mk first (rest ++ more))).2 with
  | true =>
    have hV := view_on _ hok hgood hX2
    rw [← hV.2] at hA
    refine Reset_walk d p n F st from_ m act ep (1 + old.length) (1 + secsAll old) (1 - act) (ep + 1) recs j v (by omega) hact hep hr hfit w h hJ hT rfl rfl _ (Lib.hid (fun y vv hv hTT => ?_))
    refine (reach_ok d p n F st from_ m (1 - act) (ep + 1) 0 0 j act ep (1 + old.length) (1 + secsAll old) vv (title :: recs) first rest hfirst hrest hsf hm hn (by omega) (by omega) hep (by simp; omega) hl1
      more hmore a ha y (h.below hv) (hFt.less (by omega)) mk hmk _ rfl hX2 (hJ.keep (hv.block j hJ.lt)) hjF hjp hTT).mono ?_
    rintro e w' ⟨rfl, F', hD', hJ', hM'⟩
    rw [ee1, ee2] at hJ'
    exact ⟨_, F', rfl, hM', F', _, (Mv.below _ _ hv).trans hM', hOkX, hFX, hOut, Or.inl ⟨rfl, hD', lay_ps hX2, fun hO => (hA hO).1, hJ'⟩⟩
  | false =>
    refine Reset_walk d p n F st from_ m act ep (1 + old.length) (1 + secsAll old) (1 - act) (ep + 1) recs j v (by omega) hact hep hr hfit w h hJ hT rfl rfl _ (Lib.hid (fun y vv hv hTT => ?_))
    refine (reach_cut d p n F st from_ m (1 - act) (ep + 1) 0 0 j act ep (1 + old.length) (1 + secsAll old) vv (title :: recs) first rest hfirst hrest hsf hm hn (by omega) (by omega) hep (by simp; omega) hl1
      more hmore a ha y (h.below hv) (hFt.less (by omega)) mk hmk _ rfl hX2 (hW.mv (Mv.below _ _ hv)) (hJ.keep (hv.block j hJ.lt)) hjF hjp hTT).mono ?_
    rintro e w' ⟨F', g, g', rfl, hA', hg', hD', hJ', hM'⟩
    refine ⟨_, F', rfl, hM', F', _, (Mv.below _ _ hv).trans hM', hOkX, hFX, hOut, Or.inr ⟨g, g', rfl, hA', Nat.le_trans hv.size hg', hD', hJ', fun hO len => ?_⟩⟩
    have hMx := crash_lay hok hps hfirst hwide (by omega) hmk hX2 len
    rcases hO.mixed_anew hMx (by omega) hmr0 with h1 | h1
    · exact Or.inl h1
    · right; rw [h1]; exact (hA hO).1
end Go.Proofs.YtbljhodnpddpiaaGreatDoor

/- The walk of JournalCrash. -/
namespace Go.Proofs.YtbljhodnpddpiaaGreatDoor
open Go.RowKit

theorem run_append_nothing {P : Program} (w : World) (t ty e : TypeId) (i : TypeInfo) (ht : P.underlying t = some (.slice e)) (hi : P.info? e = some i) (b : Option Addr) (c : Nat) :
    (Builtin.append_ #[t, t] ty #[.slice none 0 0, .slice b 0 c]).run P w = .ok (.slice none 0 0) w := by
  cases b <;> simp [Builtin.append_, run_underlying ht, sizeOf, typeInfo, hi, Builtin.lenOf, Builtin.firstCells]
  rfl
/-- append of a list of texts to nil, in a region that draws. -/
theorem step_append_texts {ops : Array Oper} {o : Oper} {a : Act} {w : World} {K : Act → World → Prop} {Q : Exit → Act → World → Prop} {E : Prop} (hgd : o.guard = none) (s x : Operand)
    (ho : o.op = .call { callee := .builtin .append, args := #[s, x], argTypes := #[31, 31] }) (hs : a.eval s = .slice none 0 0) (v : Value) (l : List (List UInt8)) (hx : a.eval x = v) (hT : Texts v l w) (hl : l.length ≤ 1000000) (dst : Option Tmp) (hdst : o.dst = dst)
    (h : ∀ u w', Hid (w'.ownsRow w.heap.size 9 1 u l.length (l.map strv)) → Hid (Below w.heap.size w w') → K (a.put dst u) w') : if Region.wanted o (yielded ops a.tmps) = true then Oper.wp Tryz.prog o a w K Q else E := by
  obtain ⟨i0, hi, hz0, hz1, hz2⟩ := info_parts infoString
  subst hdst
  rcases Nat.eq_zero_or_pos l.length with h0 | h0
  · obtain ⟨b, c, hv⟩ := hT.slice
    obtain rfl : l = [] := List.eq_nil_of_length_eq_zero h0
    rw [List.length_nil] at hv
    have hw : Region.wanted o (yielded ops a.tmps) = true := by simp [Region.wanted, hgd]
    rw [if_pos hw]
    have hrun := run_append_nothing (P := Tryz.prog) w 31 o.type 9 i0 Tryz.underlying31 hi b c
    unfold Oper.wp
    simp [execOp, ho, resolve, invoke, builtin, hs, hx, hv, hrun, Result.andThen]
    exact h _ _ (Lib.hid (World.ownsRow_nil _ _ _ _)) (Lib.hid (Below.refl _ _))
  · rcases hT with ⟨_, h1⟩ | ⟨g, off, cap, hv, hg, hc⟩
    · rw [h1] at h0; simp at h0
    · refine step_append_own hgd s x 31 ho w.heap.size 9 i0 (.string ⟨#[]⟩) 1 16 Tryz.underlying31 hi hz0 hz1 hz2 rfl (by decide) (.slice none 0 0) 0 [] hs (World.ownsRow_nil _ _ _ _) ⟨g, off, none⟩ l.length cap (l.map strv) (hx.trans hv) h0 (by simp) ?_ ?_ (by unfold maxLen; omega) (by omega) (Nat.le_refl _) ?_
      · intro j u hu
        have hj : j < l.length := by
          rcases Nat.lt_or_ge j l.length with h2 | h2
          · exact h2
          · rw [List.getElem?_eq_none (by rw [List.length_map]; exact h2)] at hu; cases hu
        rw [List.getElem?_map, List.getElem?_eq_getElem hj] at hu
        rw [Addr.add_mid, hc j hj, ← hu, List.getD, List.getElem?_eq_getElem hj]; rfl
      · intro u hu
        obtain ⟨y, _, rfl⟩ := List.mem_map.1 hu
        rfl
      · intro g2 cap2 w2 h1 h2 _
        refine h _ _ (Lib.hid ?_) (Lib.hid ((Below.refl _ _).grown h2.out (Nat.le_refl _) (fun k hk => by cases hk)))
        have h3 := h1.out
        rw [List.nil_append] at h3
        have e : (0 + l.length : Nat) = l.length := Nat.zero_add _
        rw [e] at h3 ⊢
        exact h3
/-- append of one text more, in a region that draws. -/
theorem step_append_one {ops : Array Oper} {o : Oper} {a : Act} {w : World} {K : Act → World → Prop} {Q : Exit → Act → World → Prop} {E : Prop} (hgd : o.guard = none) (s x : Operand)
    (ho : o.op = .call { callee := .builtin .append, args := #[s, x], argTypes := #[31, 31] }) (u : Value) (hs : a.eval s = u) (g2 : Nat) (hx : a.eval x = .slice (some ⟨g2, 0, none⟩) 1 1) (dst : Option Tmp) (hdst : o.dst = dst)
    (l : List (List UInt8)) (r : List UInt8) (q : ByteArray) (hq : q = bs r) (B : Nat) (hown : w.ownsRow B 9 1 u l.length (l.map strv)) (hB : B ≤ w.heap.size) (hg : w.heap[g2]? = some (.cells [Value.string q].toArray 9 (0, 0))) (hl : l.length ≤ 1000000)
    (h : ∀ v w', Hid (Texts v (l ++ [r]) w') → Hid (Below B w w') → K (a.put dst v) w') : if Region.wanted o (yielded ops a.tmps) = true then Oper.wp Tryz.prog o a w K Q else E := by
  obtain ⟨i0, hi, hz0, hz1, hz2⟩ := info_parts infoString
  subst hdst
  refine step_append_own hgd s x 31 ho B 9 i0 (.string ⟨#[]⟩) 1 16 Tryz.underlying31 hi hz0 hz1 hz2 rfl (by decide) u l.length (l.map strv) hs hown ⟨g2, 0, none⟩ 1 1 [Value.string q] hx (by decide) rfl (news_row hg) ?_ (by unfold maxLen; omega) (by omega) hB ?_
  · intro v hv
    simp only [List.mem_singleton] at hv
    rw [hv]; rfl
  · intro g cap w2 h1 h2 _
    refine h _ _ (Lib.hid (Texts.of_own (B := B) ?_)) (Lib.hid ((Below.refl _ _).grown h2.out hB (fun k hk => (hown.lt k hk).1)))
    have h3 := h1.out
    rw [List.length_append, List.length_singleton, List.map_append, List.map_singleton, strv, ← hq]
    exact h3
/-- A disk with no blocks but its own: no error lies there. -/
theorem Dsk.least {d p n : Nat} {F : List Nat} {st : St} {ok : Bool} {w : World} (h : Dsk d p n F st ok w) :
    ∃ F0, (∀ x ∈ F0, x ∈ F) ∧ Dsk d p n F0 st ok w ∧ ∀ g cs, w.heap[g]? = some (.cells cs 95 (0, 0)) → g ∉ F0 ∧ g ≠ p := by
  obtain ⟨bl, bn, pv, h1, h2, h3, h4, h5, h6, h7⟩ := h.liv
  refine ⟨d :: bl :: bn :: pv.ownBlock.toList, ?_, ⟨⟨bl, bn, pv, h1, by simp, by simp, by simp, fun g hg => by simp [hg], ?_, ?_⟩, h.pow⟩, ?_⟩
  · intro x hx
    simp only [List.mem_cons, Option.mem_toList] at hx
    rcases hx with rfl | rfl | rfl | hx
    · exact h2
    · exact h3
    · exact h4
    · exact h5 _ hx
  · intro hm
    simp only [List.mem_cons, Option.mem_toList] at hm
    rcases hm with e | e | e | e
    · exact h1.p0 e
    · exact h1.p1 e
    · exact h1.p2 e
    · exact (h1.own _ e).2.2.2 rfl
  · intro x hx
    simp only [List.mem_cons, Option.mem_toList] at hx
    rcases hx with rfl | rfl | rfl | hx
    · exact h7 _ h2
    · exact h7 _ h3
    · exact h7 _ h4
    · exact h7 _ (h5 _ hx)
  · intro g cs hg
    refine ⟨fun hx => ?_, ?_⟩
    · simp only [List.mem_cons, Option.mem_toList] at hx
      rcases hx with rfl | rfl | rfl | hx
      · have := h1.obj; rw [hg] at this; simp at this
      · have := h1.lst; rw [hg] at this; simp at this
      · have := h1.nws; rw [hg] at this; simp at this
      · rcases h1.pnd.2 with ⟨hv, _⟩ | ⟨g2, cap, cur, hv, _, hh, _⟩
        · rw [hv] at hx; cases hx
        · rw [hv] at hx
          obtain rfl : g2 = g := by simpa [Value.ownBlock] using hx
          rw [hg] at hh; simp at hh
    · rintro rfl
      have := h.pow; unfold PowerAt at this; rw [hg] at this; simp at this
end Go.Proofs.YtbljhodnpddpiaaGreatDoor

/- The walk of the chapter's examples. -/
namespace Go.Proofs.YtbljhodnpddpiaaGreatDoor
open Go.RowKit

theorem FaultAt.below {g : Nat} {c a : Int} {w w' : World} (h : FaultAt g c a w) (hb : Below w.heap.size w w') : FaultAt g c a w' := (hb.block g h.lt).trans h
theorem Pack_ex (w : World) : Calls Tryz.prog 86 #[.int .i64 7, .int .i64 1, .string ⟨#[97, 98]⟩] w fun r w' => (∃ q : ByteArray, r = .returned (.tuple #[.string q, .nilIface]) ∧ IsRec q 7 1 [97, 98] ∧ q.size = 64) ∧ Below w.heap.size w w' := by
  refine (Pack_ok 7 1 ⟨#[97, 98]⟩ (by omega) (by omega) (by decide) w).mono ?_
  rintro r w' ⟨rfl, hb⟩
  have hz : (bs (Fr.record 7 1 [97, 98])).size = 64 := by rw [bs_size, Fr.length_record]; rfl
  exact ⟨⟨_, rfl, isRec 7 1 [97, 98] [] (by decide) _ (by rw [bs_list, List.append_nil]) (by rw [show (⟨#[97, 98]⟩ : ByteArray).data.toList = [97, 98] from rfl, hz]; omega), hz⟩, hb⟩
theorem Unpack_ex (q : ByteArray) (h : IsRec q 7 1 [97, 98]) (w : World) : Calls Tryz.prog 92 #[.string q, .int .i64 7, .int .i64 1] w fun r w' => r = .returned (.tuple #[.string ⟨#[97, 98]⟩, .int .i64 64, .nilIface]) ∧ Below w.heap.size w w' := by
  have := Unpack_rec q 7 1 [97, 98] (by omega) (by omega) h w
  rw [← bs_eq] at this
  exact this
theorem Unpack_ex2 (q : ByteArray) (h : IsRec q 7 1 [97, 98]) (w : World) : Calls Tryz.prog 92 #[.string q, .int .i64 7, .int .i64 2] w (Refused 20 0 (fun v => .tuple #[.string ⟨#[]⟩, .int .i64 0, v]) w) :=
  Unpack_head q 7 2 2 (by omega) (by omega) h.looks (by rw [h.head]; exact ex_head) w
theorem Sum_9 (w : World) : Calls Tryz.prog 114 #[.string ⟨#[49, 50, 51, 52, 53, 54, 55, 56, 57]⟩] w fun e w' => e = .returned (.int .u32 3808858755) ∧ w = w' := by
  have := Sum_any ⟨#[49, 50, 51, 52, 53, 54, 55, 56, 57]⟩ (by decide) w
  rw [ex_sum] at this
  exact this
theorem More_ex (w : World) : Calls Tryz.prog 113 #[.int .u32 (Fr.sum [49, 50, 51, 52]).toNat, .string ⟨#[53, 54, 55, 56, 57]⟩] w fun e w' => e = .returned (.int .u32 3808858755) ∧ w = w' := by
  have := More_any (Fr.sum [49, 50, 51, 52]) ⟨#[53, 54, 55, 56, 57]⟩ (by decide) w
  rw [ex_more] at this
  exact this
theorem Sum_4 (w : World) : Calls Tryz.prog 114 #[.string ⟨#[49, 50, 51, 52]⟩] w fun e w' => e = .returned (.int .u32 (Fr.sum [49, 50, 51, 52]).toNat) ∧ w = w' := Sum_any ⟨#[49, 50, 51, 52]⟩ (by decide) w
theorem row_below {g : Nat} {u v : Value} {w w' : World} (h : g < w.heap.size ∧ w.cell? ⟨g, 0, none⟩ = some u ∧ w.cell? ⟨g, 1, none⟩ = some v) (hb : Below w.heap.size w w') :
    g < w'.heap.size ∧ w'.cell? ⟨g, 0, none⟩ = some u ∧ w'.cell? ⟨g, 1, none⟩ = some v :=
  ⟨by have := hb.size; omega, (hb.cell (p := ⟨g, 0, none⟩) h.1).trans h.2.1, (hb.cell (p := ⟨g, 1, none⟩) h.1).trans h.2.2⟩
end Go.Proofs.YtbljhodnpddpiaaGreatDoor

/- The walks of FrameSums and FrameAgain. -/
namespace Go.Proofs.YtbljhodnpddpiaaGreatDoor
open Go.RowKit

theorem cut_size (s : ByteArray) (n : Nat) : (bs (s.data.toList.take n)).size ≤ n := by rw [bs_size, List.length_take]; omega
end Go.Proofs.YtbljhodnpddpiaaGreatDoor

/- The walks of the document's own record. -/
namespace Go.Proofs.YtbljhodnpddpiaaGreatDoor
open Go.RowKit

theorem f_b3 (n : Nat) : (n : Int) / 16777216 % 256 = ((Fr.byteAt n 3).toNat : Int) := byteAt_mod n 3
theorem f_b2 (n : Nat) : (n : Int) / 65536 % 256 = ((Fr.byteAt n 2).toNat : Int) := byteAt_mod n 2
theorem f_b1 (n : Nat) : (n : Int) / 256 % 256 = ((Fr.byteAt n 1).toNat : Int) := byteAt_mod n 1
theorem f_b0 (n : Nat) : (n : Int) % 256 = ((Fr.byteAt n 0).toNat : Int) := by
  have := byteAt_mod n 0
  rw [Nat.mul_zero, Int.pow_zero, Int.ediv_one] at this
  exact this
theorem be4 (n : Nat) : Fr.be 4 n = [Fr.byteAt n 3, Fr.byteAt n 2, Fr.byteAt n 1, Fr.byteAt n 0] := by rw [Fr.be_succ, Fr.be_succ, Fr.be_succ, Fr.be_succ, Fr.be_zero]
theorem byteAt_shift (n k : Nat) : Fr.byteAt (n / 4294967296) k = Fr.byteAt n (k + 4) := by
  rw [Fr.byteAt_eq, Fr.byteAt_eq, Nat.div_div_eq_div_mul, show (4294967296 : Nat) = 2 ^ 32 from rfl, ← Nat.pow_add]
  congr 3; omega
theorem be8 (n : Nat) : Fr.be 8 n = Fr.be 4 (n / 4294967296) ++ Fr.be 4 n := by
  rw [be4, be4, byteAt_shift, byteAt_shift, byteAt_shift, byteAt_shift]
  rw [Fr.be_succ, Fr.be_succ, Fr.be_succ, Fr.be_succ, Fr.be_succ, Fr.be_succ, Fr.be_succ, Fr.be_succ, Fr.be_zero]; rfl
attribute [local go_sem high] f_b3 f_b2 f_b1 f_b0
attribute [local go_sem] Fr.length_zero bs_size Fr.length_be Fr.length_headOf Fr.length_sumOf
set_option maxHeartbeats 1000000 in
theorem rU32_any (n : Nat) (w : World) : Calls Tryz.prog 96 #[.int .i64 n] w fun e w' => e = .returned (.string (bs (Fr.be 4 n))) ∧ Below w.heap.size w w' := by
  have hr : (w.alloc (.cells #[Value.int .u8 (Fr.byteAt n 3).toNat, .int .u8 (Fr.byteAt n 2).toNat, .int .u8 (Fr.byteAt n 1).toNat, .int .u8 (Fr.byteAt n 0).toNat] 5)).rangeAt w.heap.size 0 ((Fr.be 4 n).map u8v) :=
    range_of_list (t := 5) (fr := (0, 0)) (by rw [be4]; exact heap_alloc_new _ _)
  have HR := Lib.hid hr
  have HL := Lib.hid (Fr.length_be 4 n)
  clear hr
  go_enter Tryz.func96, Tryz.ntmps96
  go_wp2_with (refine wpList_bytes_string rfl 59 9 (.tmp 14) rfl 5 w.heap.size 0 4 4 rfl (Fr.be 4 n) HL.out Tryz.underlying59 Tryz.underlying5 Tryz.underlying9 HR.out ?_; go_frame)
  go_ret
  exact ⟨by rw [← bs_eq]; rfl, (Below.refl _ _).alloc (Nat.le_refl _) _⟩
set_option maxHeartbeats 1000000 in
theorem rU64_any (n : Nat) (hn : n < 9223372036854775808) (w : World) : Calls Tryz.prog 97 #[.int .i64 n] w fun e w' => e = .returned (.string (bs (Fr.be 8 n))) ∧ Below w.heap.size w w' := by
  obtain ⟨m, hm⟩ : ∃ m, m = n / 4294967296 := ⟨_, rfl⟩
  have hm1 : (n : Int) / 4294967296 = (m : Int) := by omega
  have hm2 : m < 9223372036854775808 := by omega
  have HE := Lib.hid (show bs (Fr.be 8 n) = bs (Fr.be 4 m) ++ bs (Fr.be 4 n) by rw [be8, hm, bs_append])
  have HB := Lib.hid (Below.refl w.heap.size w)
  clear hm
  go_enter Tryz.func97, Tryz.ntmps97
  go_wp2_with (go_at_call 96; (first | with_reducible refine (rU32_any m _).mono ?_ | with_reducible refine (rU32_any n _).mono ?_); rintro r w' ⟨rfl, hb⟩; replace HB := Lib.hid (HB.out.trans (hb.mono HB.out.size)); clear hb)
  go_ret
  exact ⟨by rw [HE.out]; rfl, HB.out⟩
theorem rSectors_any (n : Nat) (hn : n ≤ 9000000000000) (w : World) : Calls Tryz.prog 64 #[.int .i64 n] w fun r w' => r = .returned (.int .i64 ((n + 63) / 64 : Nat)) ∧ w = w' := by
  go_enter Tryz.func64, Tryz.ntmps64
  go_wp2
  go_ret
  exact ⟨ret_int (by omega), rfl⟩
end Go.Proofs.YtbljhodnpddpiaaGreatDoor

/- The document's journal: how many sectors are left, another one, one record more, these in the place of all. -/
namespace Go.Proofs.YtbljhodnpddpiaaGreatDoor
open Go.RowKit

/-- The document's journal at block r. -/
structure RJ (r h e : Nat) (v : Value) (recs : List (List UInt8)) (w : World) : Prop where
  at_ : w.heap[r]? = some (.cells [Value.int .i64 h, .int .i64 e, v].toArray 44 (0, 0))
  tx : Texts v recs w
section
variable {r h e : Nat} {v : Value} {recs : List (List UInt8)} {w w' : World}
theorem RJ.lt (H : RJ r h e v recs w) : r < w.heap.size := lt_of_heap H.at_
theorem RJ.cells (H : RJ r h e v recs w) : w.cell? ⟨r, 0, none⟩ = some (.int .i64 h) ∧ w.cell? ⟨r, 1, none⟩ = some (.int .i64 e) ∧ w.cell? ⟨r, 2, none⟩ = some v := by
  refine ⟨?_, ?_, ?_⟩ <;> (rw [cell_of_list H.at_]; rfl)
theorem RJ.below (H : RJ r h e v recs w) (hb : Below w.heap.size w w') : RJ r h e v recs w' := ⟨(hb.block r H.lt).trans H.at_, H.tx.below (Nat.le_refl _) hb⟩
end
theorem rWants_is (q : ByteArray) (x : List UInt8) (hq : q = bs x) (hx : x.length ≤ 60000) (w : World) :
    Calls Tryz.prog 44 #[.string q] w fun e w' => e = .returned (.int .i64 (secs x : Nat)) ∧ w = w' := by
  have hs : q.size = x.length := by rw [hq, bs_size]
  obtain ⟨N, hN⟩ : ∃ N, N = 24 + x.length := ⟨_, rfl⟩
  have CS := Lib.hid (fun v : World => (show Calls Tryz.prog 64 #[.int .i64 (24 + (q.size : Int))] v (fun e w' => e = .returned (.int .i64 (secs x : Nat)) ∧ v = w') by
    have := rSectors_any N (by omega) v
    rw [show ((N : Nat) : Int) = 24 + (q.size : Int) by omega, show (N + 63) / 64 = secs x by rw [secs_eq]; omega] at this
    exact this))
  have hqs : q.size ≤ 60000 := by omega
  clear hs hN hq
  go_enter Tryz.func44, Tryz.ntmps44
  go_wp2_with (go_at_call 64; refine (CS.out _).mono ?_; rintro e w' ⟨rfl, rfl⟩)
  go_ret
  exact ⟨rfl, rfl⟩
theorem length_secs (l : List (List UInt8)) : ∀ k, k ≤ l.length → secsAll (l.take k) ≤ secsAll l := fun k _ => secsAll_take k
set_option maxRecDepth 100000 in
set_option maxHeartbeats 2000000 in
theorem rLeft_is (r h e : Nat) (v : Value) (recs : List (List UInt8)) (hh : h ≤ 8192) (hf : secsAll recs ≤ h) (hfew : ∀ q ∈ recs, q.length ≤ 60000) (w : World) (H : RJ r h e v recs w) :
    Calls Tryz.prog 14 #[.pointer (some ⟨r, 0, none⟩)] w fun x w' => x = .returned (.int .i64 (h - secsAll recs : Nat)) ∧ Below w.heap.size w w' := by
  obtain ⟨c0, c1, c2⟩ := H.cells
  have HH := Lib.hid H
  have HFW := Lib.hid hfew
  have hll := length_le_secsAll recs
  obtain ⟨vb, vc, rfl⟩ := H.tx.slice
  clear H hfew c1
  go_enter Tryz.func14, Tryz.ntmps14
  go_wp2_with fail
  go_loopw [3, 4] (fun nv iv wr => ∃ k : Nat, k ≤ recs.length ∧ iv = .int .i64 k ∧ nv = .int .i64 (h - secsAll (recs.take k) : Nat) ∧ Below w.heap.size w wr) (fun _ iv _ => recs.length - (intOf iv).toNat)
  case atStart => exact ⟨0, by omega, rfl, by rw [List.take_zero, secsAll_nil]; rfl, Below.refl _ _⟩
  case round =>
    obtain ⟨k, hk, rfl, rfl, hB⟩ := hrel
    have hrl := HH.out.lt
    have d2 : wr.cell? ⟨r, 2, none⟩ = some (.slice vb recs.length vc) := (World.cell?_of_block (w := w) (a := ⟨r, 2, none⟩) (hB.block r hrl)).trans c2
    have hle := secsAll_take (ps := recs) k
    obtain ⟨M, hM⟩ : ∃ M, M = h - secsAll (recs.take k) := ⟨_, rfl⟩
    rw [← hM]
    by_cases hlt : k < recs.length
    · have hT := HH.out.tx.below (Nat.le_refl _) hB
      obtain ⟨g, off, cap, hv, hc⟩ := hT.at_ hlt
      injection hv with hv1 _ hv3
      subst hv1 hv3
      obtain ⟨x, hx⟩ : ∃ x, x = recs.getD k [] := ⟨_, rfl⟩
      rw [← hx] at hc
      have hxm : x.length ≤ 60000 := HFW.out x (by rw [hx, List.getD, List.getElem?_eq_getElem hlt]; exact List.getElem_mem _)
      have hsu := secsAll_take_succ hlt
      rw [← hx] at hsu
      have hle2 := secsAll_take (ps := recs) (k + 1)
      have hMM : (M : Int) - (secs x : Int) = ((h - secsAll (recs.take (k + 1)) : Nat) : Int) := by omega
      obtain ⟨q, hq⟩ : ∃ q, q = bs x := ⟨_, rfl⟩
      rw [← hq] at hc
      have CW := Lib.hid (fun v : World => rWants_is q x hq hxm v)
      obtain ⟨Z, hZ⟩ : ∃ Z, Z = secs x := ⟨_, rfl⟩
      rw [← hZ] at CW hMM
      have HMM := Lib.hid hMM
      have hZ1 : Z ≤ 939 := by rw [hZ, secs_eq]; omega
      have hM1 : M ≤ 8192 := by omega
      have HB := Lib.hid hB
      have d2' : wr.drew.cell? ⟨r, 2, none⟩ = some (.slice (some ⟨g, off, none⟩) recs.length vc) := d2
      have hc' : wr.drew.cell? ⟨g, off + k, none⟩ = some (.string q) := hc
      clear hx hsu hle hle2 hMM hq hT hB hM hZ hxm
      go_wp2_with (first | (go_at_call 44; refine (CW.out _).mono ?_; rintro e w' ⟨rfl, rfl⟩) | fail)
      go_roundw
      case rel => exact ⟨k + 1, by omega, by go_num, by rw [← HMM.out], HB.out⟩
      case measure => simp [intOf]; omega
    · obtain rfl : k = recs.length := by omega
      rw [List.take_length] at hM
      have HB := Lib.hid hB
      clear hB
      go_wp2_with fail
      go_ret
      exact ⟨by rw [← hM]; rfl, HB.out⟩
set_option maxRecDepth 100000 in
set_option maxHeartbeats 2000000 in
theorem rCopy_is (r h e : Nat) (v : Value) (recs : List (List UInt8)) (hl : recs.length ≤ 1000000) (w : World) (H : RJ r h e v recs w) :
    Calls Tryz.prog 34 #[.pointer (some ⟨r, 0, none⟩)] w fun x w' => ∃ r' v', x = .returned (.pointer (some ⟨r', 0, none⟩)) ∧ w.heap.size ≤ r' ∧ RJ r' h e v' recs w' ∧ w'.ownsRow w.heap.size 9 1 v' recs.length (recs.map strv) ∧ Below w.heap.size w w' := by
  obtain ⟨c0, c1, c2⟩ := H.cells
  have HH := Lib.hid H
  obtain ⟨vb, vc, rfl⟩ := H.tx.slice
  have hrl := H.lt
  have HT := Lib.hid (H.tx.below (Nat.le_refl _) (Below.refl w.heap.size w).drew)
  clear H
  go_enter Tryz.func34, Tryz.ntmps34
  go_wp2_with fail
  have S1 : w.drew.cell? ⟨r, 0, none⟩ = some (.int .i64 h) ∧ w.drew.cell? ⟨r, 1, none⟩ = some (.int .i64 e) ∧ w.drew.cell? ⟨r, 2, none⟩ = some (.slice vb recs.length vc) := ⟨c0, c1, c2⟩
  go_region_held_law (fun u => u.cell? ⟨r, 0, none⟩ = some (.int .i64 h) ∧ u.cell? ⟨r, 1, none⟩ = some (.int .i64 e) ∧ u.cell? ⟨r, 2, none⟩ = some (.slice vb recs.length vc)) (first | exact S1 | exact S2 | exact S3) (first | (refine step_append_texts rfl (.const (Value.slice none 0 0)) (.tmp 14) rfl rfl (.slice vb recs.length vc) recs rfl HT.out hl (some 15) rfl ?_; intro u w2 ho2 hb2; obtain ⟨ub, uc, hu⟩ := own_slice ho2.out; subst hu; have b2 : Below w.heap.size w w2 := (Below.refl _ _).drew.trans hb2.out; have HB2 := Lib.hid b2; have S2 : w2.cell? ⟨r, 0, none⟩ = some (.int .i64 h) ∧ w2.cell? ⟨r, 1, none⟩ = some (.int .i64 e) ∧ w2.cell? ⟨r, 2, none⟩ = some (.slice vb recs.length vc) := ⟨(b2.cell (p := ⟨r, 0, none⟩) hrl).trans c0, (b2.cell (p := ⟨r, 1, none⟩) hrl).trans c1, (b2.cell (p := ⟨r, 2, none⟩) hrl).trans c2⟩; have b3 : Below w2.heap.size w2 (w2.alloc (.cells #[Value.int .i64 h, .int .i64 e, .slice ub recs.length uc] 44)) := (Below.refl _ _).alloc (Nat.le_refl _) _; have S3 : (w2.alloc (.cells #[Value.int .i64 h, .int .i64 e, .slice ub recs.length uc] 44)).cell? ⟨r, 0, none⟩ = some (.int .i64 h) ∧ (w2.alloc (.cells #[Value.int .i64 h, .int .i64 e, .slice ub recs.length uc] 44)).cell? ⟨r, 1, none⟩ = some (.int .i64 e) ∧ (w2.alloc (.cells #[Value.int .i64 h, .int .i64 e, .slice ub recs.length uc] 44)).cell? ⟨r, 2, none⟩ = some (.slice vb recs.length vc) := ⟨(b3.cell (p := ⟨r, 0, none⟩) (Nat.lt_of_lt_of_le hrl b2.size)).trans S2.1, (b3.cell (p := ⟨r, 1, none⟩) (Nat.lt_of_lt_of_le hrl b2.size)).trans S2.2.1, (b3.cell (p := ⟨r, 2, none⟩) (Nat.lt_of_lt_of_le hrl b2.size)).trans S2.2.2⟩; have HB3 := Lib.hid b3; clear b2 b3) | fail)
  all_goals
    go_wp2_with fail
    go_ret
    have hown := own_below ho2.out HB3.out
    exact ⟨w2.heap.size, _, rfl, HB2.out.size, ⟨heap_alloc_new _ _, Texts.of_own hown⟩, own_low hown (Nat.le_refl _), HB2.out.trans (HB3.out.mono HB2.out.size)⟩
end Go.Proofs.YtbljhodnpddpiaaGreatDoor
