/- What a disk reads as behind acts; what stands on a journal's sectors, plainly. -/
import Derived.Test.YtmobjpandmdmdaaGreatDoorJCalls
namespace Go.Proofs.YtmobjpandmdmdaaGreatDoor
open Go.RowKit

structure StOk (st : St) (n : Nat) : Prop where
  len : st.S.length = n
  wide : ∀ s ∈ st.S, s.length = 64
  wrs : ∀ x ∈ st.ps, x.1 < n ∧ x.2.length = 64
def St.view (st : St) (x : Nat) : List UInt8 := Dk.readAt st.S st.ps x
def Do.Good (n : Nat) : Do → Prop
  | .put a s => a < n ∧ s.length = 64
  | .flush => True
def upd (W : Nat → List UInt8) : Do → Nat → List UInt8
  | .put a s, x => if x = a then s else W x
  | .flush, x => W x
def updAll (W : Nat → List UInt8) (os : List Do) : Nat → List UInt8 := os.foldl upd W
theorem StOk.did {st : St} {n : Nat} (h : StOk st n) {o : Do} (ho : o.Good n) : StOk (st.did o) n := by
  cases o with
  | put a s =>
    refine ⟨h.len, h.wide, fun x hx => ?_⟩
    rcases List.mem_append.1 hx with h1 | h1
    · exact h.wrs x h1
    · simp at h1; subst h1; exact ho
  | flush =>
    have hw : ∀ x ∈ st.ps, x.1 < st.S.length ∧ x.2.length = 64 := fun x hx => by rw [h.len]; exact h.wrs x hx
    exact ⟨(Dk.length_settleTo _ _ _ _).trans h.len, Dk.settleTo_wide _ h.wide hw _ (Nat.le_refl _), fun x hx => by cases hx⟩
theorem view_did {st : St} {n : Nat} (h : StOk st n) {o : Do} (ho : o.Good n) : (st.did o).view = upd st.view o := by
  funext x
  cases o with
  | put a s => exact Dk.readAt_snoc st.S st.ps (a, s) x (by rw [h.len]; exact ho.1)
  | flush =>
    have hw : ∀ x ∈ st.ps, x.1 < st.S.length ∧ x.2.length = 64 := fun x hx => by rw [h.len]; exact h.wrs x hx
    have := Dk.flushed_at st.S st.ps h.wide hw st.ps.length (Nat.le_refl _) x
    rw [List.take_length] at this
    show Dk.readAt _ [] x = Dk.readAt st.S st.ps x
    rw [Dk.readAt_nil]
    exact this
theorem view_all {n : Nat} (os : List Do) : ∀ {st : St} (_ : StOk st n) (_ : ∀ o ∈ os, o.Good n) (_ : st.fuse = -1), StOk (doAll (st, true) os).1 n ∧ (doAll (st, true) os).1.view = updAll st.view os := by
  induction os with
  | nil => intro st h _ _; exact ⟨h, rfl⟩
  | cons o os ih =>
    intro st h ho hf
    obtain ⟨h1, h2⟩ := does_free hf o
    have hg := ho o (List.mem_cons_self ..)
    rw [doAll_cons, h1]
    obtain ⟨h3, h4⟩ := ih (h.did hg) (fun o ho' => ho o (List.mem_cons_of_mem _ ho')) h2
    refine ⟨h3, ?_⟩
    rw [h4, view_did h hg]; rfl
theorem updAll_append (W : Nat → List UInt8) (a b : List Do) : updAll W (a ++ b) = updAll (updAll W a) b := List.foldl_append
theorem updAll_puts (W : Nat → List UInt8) (a : Nat) (ss : List (List UInt8)) (x : Nat) : updAll W (puts a ss) x = if a ≤ x ∧ x < a + ss.length then ss.getD (x - a) [] else W x := by
  induction ss generalizing a W with
  | nil => rw [if_neg (by rw [List.length_nil]; omega)]; rfl
  | cons s ss ih =>
    show updAll (upd W (.put a s)) (puts (a + 1) ss) x = _
    rw [ih, List.length_cons]
    by_cases h1 : a + 1 ≤ x ∧ x < a + 1 + ss.length
    · rw [if_pos h1, if_pos (by omega), show x - a = (x - (a + 1)) + 1 by omega, List.getD_cons_succ]
    · rw [if_neg h1]
      by_cases h2 : x = a
      · subst h2
        rw [if_pos (by omega), Nat.sub_self]
        show (if x = x then s else W x) = _
        rw [if_pos rfl, List.getD_cons_zero]
      · rw [if_neg (by omega)]
        show (if x = a then s else W x) = _
        rw [if_neg h2]
theorem lay_view (W : Nat → List UInt8) (a : Nat) (mk : Bool) (first : List UInt8) (rs : List (List UInt8)) (x : Nat) :
    updAll W (layActs a mk first rs) x = if x = a then first else if a + 1 ≤ x ∧ x < a + 1 + rs.length then rs.getD (x - (a + 1)) [] else W x := by
  have e : updAll W (layActs a mk first rs) x = (if x = a then first else updAll (updAll W (puts a [0 :: first.drop 1])) (puts (a + 1) rs) x) := by
    unfold layActs
    rw [updAll_append, updAll_append, updAll_append]
    cases mk <;> rfl
  rw [e]
  by_cases h : x = a
  · rw [if_pos h, if_pos h]
  · rw [if_neg h, if_neg h, updAll_puts]
    by_cases h1 : a + 1 ≤ x ∧ x < a + 1 + rs.length
    · rw [if_pos h1, if_pos h1]
    · rw [if_neg h1, if_neg h1, updAll_puts, if_neg (by simp; omega)]
theorem layActs_good {n a : Nat} {mk : Bool} {first : List UInt8} {rs : List (List UInt8)} (hf : first.length = 64) (hr : Wide rs) (ha : a + 1 + rs.length ≤ n) : ∀ o ∈ layActs a mk first rs, o.Good n := by
  have hp : ∀ (ss : List (List UInt8)) (b : Nat), Wide ss → b + ss.length ≤ n → ∀ o ∈ puts b ss, o.Good n := by
    intro ss
    induction ss with
    | nil => intro b _ _ o ho; cases ho
    | cons s ss ih =>
      intro b hw hb o ho
      rw [List.length_cons] at hb
      rcases List.mem_cons.1 ho with rfl | ho
      · exact ⟨by omega, hw s (List.mem_cons_self ..)⟩
      · exact ih (b + 1) (fun t ht => hw t (List.mem_cons_of_mem _ ht)) (by omega) o ho
  intro o ho
  unfold layActs at ho
  rcases List.mem_append.1 ho with h | h
  · exact hp _ _ (wide_one (unmarked_64 hf)) (by rw [List.length_singleton]; omega) o h
  rcases List.mem_append.1 h with h | h
  · cases mk
    · simp at h
    · simp at h; subst h; trivial
  rcases List.mem_append.1 h with h | h
  · exact hp _ _ hr ha o h
  · simp at h
    rcases h with rfl | rfl | rfl
    · trivial
    · exact ⟨by omega, hf⟩
    · trivial
theorem doAll_ps {st : St} {os : List Do} (h : (doAll (st, true) (os ++ [.flush])).2 = true) : (doAll (st, true) (os ++ [.flush])).1.ps = [] := by
  rw [doAll_append] at h ⊢
  obtain ⟨⟨s, o⟩, hx⟩ : ∃ x, x = doAll (st, true) os := ⟨_, rfl⟩
  rw [← hx] at h ⊢
  cases o with
  | false => exact absurd h (by simp [doAll, does])
  | true =>
    by_cases h0 : s.fuse = 0
    · exact absurd h (by simp [doAll, does, h0])
    · show (does (s, true) .flush).1.ps = []
      rw [does_on h0]; rfl
theorem lay_ps {st : St} {a : Nat} {mk : Bool} {first : List UInt8} {rs : List (List UInt8)} (h : (doAll (st, true) (layActs a mk first rs)).2 = true) : (doAll (st, true) (layActs a mk first rs)).1.ps = [] := by
  have e : layActs a mk first rs = (puts a [0 :: first.drop 1] ++ ((if mk then [.flush] else []) ++ (puts (a + 1) rs ++ [.flush, .put a first]))) ++ [.flush] := by unfold layActs; simp
  rw [e] at h ⊢
  exact doAll_ps h
/-- Sectors, as one text. -/
def vt (W : Nat → List UInt8) (a k : Nat) : List UInt8 := ((List.range k).map fun i => W (a + i)).flatten
theorem vt_zero (W : Nat → List UInt8) (a : Nat) : vt W a 0 = [] := rfl
theorem vt_succ (W : Nat → List UInt8) (a k : Nat) : vt W a (k + 1) = vt W a k ++ W (a + k) := by simp [vt, List.range_succ]
theorem vt_add (W : Nat → List UInt8) (a j k : Nat) : vt W a (j + k) = vt W a j ++ vt W (a + j) k := by
  induction k with
  | zero => rw [vt_zero, List.append_nil]; rfl
  | succ k ih => rw [← Nat.add_assoc, vt_succ, ih, vt_succ, List.append_assoc, Nat.add_assoc]
theorem vt_congr {W W' : Nat → List UInt8} {a k : Nat} (h : ∀ x, a ≤ x → x < a + k → W' x = W x) : vt W' a k = vt W a k := by
  induction k with
  | zero => rfl
  | succ k ih => rw [vt_succ, vt_succ, ih (fun x h1 h2 => h x h1 (by omega)), h (a + k) (by omega) (by omega)]
theorem length_vt {W : Nat → List UInt8} {a k : Nat} (h : ∀ x, a ≤ x → x < a + k → (W x).length = 64) : (vt W a k).length = 64 * k := by
  induction k with
  | zero => rfl
  | succ k ih => rw [vt_succ, List.length_append, ih (fun x h1 h2 => h x h1 (by omega)), h (a + k) (by omega) (by omega)]; omega
theorem vt_list {W : Nat → List UInt8} {a : Nat} {ss : List (List UInt8)} (h : ∀ i, i < ss.length → W (a + i) = ss.getD i []) : vt W a ss.length = ss.flatten := by
  have key : ∀ k, k ≤ ss.length → vt W a k = (ss.take k).flatten := by
    intro k
    induction k with
    | zero => intro _; rfl
    | succ k ih =>
      intro hk
      rw [vt_succ, ih (by omega), h k (by omega), List.take_succ_eq_append_getElem (by omega), List.flatten_append, List.getD, List.getElem?_eq_getElem (by omega)]
      simp
  rw [key _ (Nat.le_refl _), List.take_length]
theorem rd_view (st : St) (a k : Nat) (h : st.ps = []) : rd st.S [] a k = vt st.view a k := by
  unfold rd vt St.view; rw [h]
/-- What stands on a journal's sectors is right. -/
structure JOn (W : Nat → List UInt8) (from_ m act ep : Nat) (recs : List (List UInt8)) : Prop where
  a1 : act ≤ 1
  e1 : 1 ≤ ep
  e2 : ep ≤ 4611686018427387904
  used : 1 + secsAll recs ≤ m
  head : W (from_ + act * m) = Fr.record ep 0 title
  text : ∃ tail, vt W (from_ + act * m + 1) (m - 1) = packs ep 1 recs ++ tail ∧ NoRec tail
  other : ∃ E, EpochIs (bs (W (from_ + (1 - act) * m))) E ∧ E < ep
  few : ∀ r ∈ recs, r.length ≤ 60000
theorem title_secs : secs title = 1 := by rw [secs_eq]; rfl
theorem length_head (ep : Nat) : (Fr.record ep 0 title).length = 64 := by rw [Fr.length_record, whole_secs, title_secs]
theorem epoch_head (ep : Nat) (h1 : 1 ≤ ep) (h2 : ep ≤ 4611686018427387904) : EpochIs (bs (Fr.record ep 0 title)) ep :=
  Or.inr ⟨isRec ep 0 title [] (by decide) _ (by rw [bs_list, List.append_nil]) (by rw [bs_size, length_head]; omega), h1, h2⟩
theorem epoch_z : EpochIs (bs z64) 0 := Or.inl ⟨Or.inr (by rw [bs_list]; decide), rfl⟩
theorem JOn.right {st : St} {from_ m act ep : Nat} {recs : List (List UInt8)} (h : JOn st.view from_ m act ep recs) (hps : st.ps = []) : ∃ tail, Right st.S from_ m act ep recs tail := by
  obtain ⟨tail, ht, hn⟩ := h.text
  obtain ⟨E', hE, hlt⟩ := h.other
  have hv : st.view = fun x => Dk.readAt st.S [] x := by funext x; unfold St.view; rw [hps]
  refine ⟨tail, ⟨?_, h.e1, by rw [rd_view st _ _ hps]; exact ht, hn, h.few⟩⟩
  have hh := epoch_head ep h.e1 h.e2
  rw [← h.head, hv] at hh
  rw [hv] at hE
  have ha : act = 0 ∨ act = 1 := by have := h.a1; omega
  rcases ha with rfl | rfl
  · rw [Nat.zero_mul, Nat.add_zero] at hh
    rw [Nat.sub_zero, Nat.one_mul] at hE
    exact ⟨ep, E', hh, hE, by rw [if_neg (by omega)], by rw [if_neg (by omega)]⟩
  · rw [Nat.one_mul] at hh
    rw [Nat.sub_self, Nat.zero_mul, Nat.add_zero] at hE
    exact ⟨E', ep, hE, hh, by rw [if_pos hlt], by rw [if_pos hlt]⟩
theorem JOn.congr {W W' : Nat → List UInt8} {from_ m act ep : Nat} {recs : List (List UInt8)} (h : JOn W from_ m act ep recs) (hm : 1 ≤ m) (hW : ∀ x, from_ ≤ x → x < from_ + 2 * m → W' x = W x) : JOn W' from_ m act ep recs := by
  have ham : act * m ≤ m := by have : act = 0 ∨ act = 1 := by have := h.a1; omega
                               rcases this with h0 | h0 <;> rw [h0] <;> omega
  have ham' : (1 - act) * m ≤ m := by have : 1 - act = 0 ∨ 1 - act = 1 := by omega
                                      rcases this with h0 | h0 <;> rw [h0] <;> omega
  obtain ⟨tail, ht, hn⟩ := h.text
  obtain ⟨E', hE, hlt⟩ := h.other
  refine ⟨h.a1, h.e1, h.e2, h.used, by rw [hW _ (by omega) (by omega)]; exact h.head, ⟨tail, ?_, hn⟩, ⟨E', by rw [hW _ (by omega) (by omega)]; exact hE, hlt⟩, h.few⟩
  rw [vt_congr (fun x h1 h2 => hW x (by omega) (by omega))]; exact ht
/-- What behind some sectors that were laid is no record: they are of bytes 0, or there are none. -/
theorem tail_none {W : Nat → List UInt8} {a k : Nat} (h : 0 < k → W a = z64) : NoRec (vt W a k) := by
  by_cases hk : 0 < k
  · right
    rw [show k = 1 + (k - 1) by omega, vt_add, show vt W a 1 = W a by rw [vt_succ, vt_zero]; rfl, h hk]
    unfold z64
    rw [List.getD, List.getElem?_append_left (by simp)]
    decide
  · left
    rw [show k = 0 by omega, vt_zero]; decide
/-- A record more. -/
theorem JOn.append {W : Nat → List UInt8} {from_ m act ep a : Nat} {recs : List (List UInt8)} (h : JOn W from_ m act ep recs) (r first : List UInt8) (rest more : List (List UInt8)) (mk : Bool) (hr : r.length ≤ 60000) (hpk : first ++ rest.flatten = packs ep (1 + recs.length) [r])
    (hfirst : first.length = 64) (hrest : Wide rest) (hfit : 1 + secsAll recs + secs r ≤ m) (hmore : more = if 1 + secsAll recs + 1 + rest.length < m then [z64] else []) (ha : a = from_ + act * m + (1 + secsAll recs)) (hw : ∀ x, from_ ≤ x → x < from_ + 2 * m → (W x).length = 64) :
    JOn (updAll W (layActs a mk first (rest ++ more))) from_ m act ep (recs ++ [r]) ∧ ∀ x, (x < from_ ∨ from_ + 2 * m ≤ x) → updAll W (layActs a mk first (rest ++ more)) x = W x := by
  have hk : secs r = 1 + rest.length := by
    have := congrArg List.length hpk
    rw [length_packs, List.length_append, hfirst, hrest.flat, secsAll_cons, secsAll_nil] at this
    omega
  have hml : more.length ≤ 1 := by rw [hmore]; split <;> simp
  have hmr : a + 1 + (rest ++ more).length ≤ from_ + act * m + m := by
    rw [List.length_append, hmore]; split
    · simp; omega
    · simp; omega
  have ham : act * m ≤ m := by have : act = 0 ∨ act = 1 := by have := h.a1; omega
                               rcases this with h0 | h0 <;> rw [h0] <;> omega
  have ho : (from_ + (1 - act) * m < from_ + act * m) ∨ from_ + act * m + m ≤ from_ + (1 - act) * m := by
    have : act = 0 ∨ act = 1 := by have := h.a1; omega
    rcases this with h0 | h0 <;> rw [h0]
    · right; omega
    · left; have := h.used; omega
  obtain ⟨tail, ht, hn⟩ := h.text
  obtain ⟨E', hE, hlt⟩ := h.other
  have V := lay_view W a mk first (rest ++ more)
  obtain ⟨W', hW'⟩ : ∃ W', W' = updAll W (layActs a mk first (rest ++ more)) := ⟨_, rfl⟩
  rw [← hW'] at V ⊢
  have Vold : ∀ x, x < a ∨ a + 1 + (rest ++ more).length ≤ x → W' x = W x := fun x hx => by rw [V, if_neg (by omega), if_neg (by omega)]
  obtain ⟨b, hb⟩ : ∃ b, b = from_ + act * m := ⟨_, rfl⟩
  rw [← hb] at ha hmr ht ho
  have hfrom : from_ ≤ b := by omega
  have hbm : b + m ≤ from_ + 2 * m := by omega
  refine ⟨⟨h.a1, h.e1, h.e2, by rw [secsAll_snoc]; omega, by rw [← hb, Vold b (Or.inl (by omega)), hb]; exact h.head, ?_, ⟨E', by rw [Vold _ (by omega)]; exact hE, hlt⟩, ?_⟩, fun x hx => Vold x (by omega)⟩
  · rw [← hb]
    have e1 : m - 1 = secsAll recs + ((1 + rest.length) + (m - 1 - secsAll recs - (1 + rest.length))) := by omega
    obtain ⟨q, hq⟩ : ∃ q, q = m - 1 - secsAll recs - (1 + rest.length) := ⟨_, rfl⟩
    rw [← hq] at e1
    have p1 : vt W' (b + 1) (secsAll recs) = packs ep 1 recs := by
      rw [vt_congr (W := W) (fun x _ h2 => Vold x (Or.inl (by omega)))]
      have := congrArg (List.take (64 * secsAll recs)) ht
      rw [e1, vt_add, List.take_left' (length_vt (fun x h1 h2 => hw x (by omega) (by omega))), List.take_left' (length_packs _ _ _)] at this
      exact this
    have p2 : vt W' (b + 1 + secsAll recs) (1 + rest.length) = Fr.record ep (1 + recs.length) r := by
      have e2 : (first :: rest).length = 1 + rest.length := by simp; omega
      rw [← e2, vt_list (ss := first :: rest) (fun i hi => ?_), flat_cons, hpk, packs_cons, packs_nil, List.append_nil]
      rw [e2] at hi
      rw [V]
      by_cases h0 : i = 0
      · rw [if_pos (by omega), h0]; rfl
      · obtain ⟨i', rfl⟩ : ∃ i', i = i' + 1 := ⟨i - 1, by omega⟩
        rw [if_neg (by omega), if_pos (by rw [List.length_append]; omega), List.getD_cons_succ, show b + 1 + secsAll recs + (i' + 1) - (a + 1) = i' by omega, List.getD, List.getElem?_append_left (by omega), ← List.getD]
    refine ⟨vt W' (b + 1 + secsAll recs + (1 + rest.length)) q, ?_, tail_none (fun h0 => ?_)⟩
    · rw [e1, vt_add, vt_add, p1, p2, packs_snoc, ← List.append_assoc]
    · have hm1 : more = [z64] := by rw [hmore, if_pos (by omega)]
      rw [V, if_neg (by omega), if_pos (by rw [List.length_append, hm1]; simp; omega), show b + 1 + secsAll recs + (1 + rest.length) - (a + 1) = rest.length by omega, List.getD, List.getElem?_append_right (Nat.le_refl _), Nat.sub_self, hm1]
      rfl
  · intro x hx
    rcases List.mem_append.1 hx with h1 | h1
    · exact h.few x h1
    · simp at h1; rw [h1]; exact hr
/-- These in the place of all. -/
theorem JOn.anew {W : Nat → List UInt8} {from_ m act ep a : Nat} {recs : List (List UInt8)} (hact : act ≤ 1) (hep : ep + 1 ≤ 4611686018427387904) (hother : ∃ E, EpochIs (bs (W (from_ + act * m))) E ∧ E < ep + 1) (first : List UInt8) (rest more : List (List UInt8)) (mk : Bool) (hr : ∀ r ∈ recs, r.length ≤ 60000)
    (hpk : first ++ rest.flatten = packs (ep + 1) 0 (title :: recs)) (hfirst : first.length = 64) (hrest : Wide rest) (hfit : 1 + secsAll recs ≤ m) (hmore : more = if 0 + 1 + rest.length < m then [z64] else []) (ha : a = from_ + (1 - act) * m + 0) :
    JOn (updAll W (layActs a mk first (rest ++ more))) from_ m (1 - act) (ep + 1) recs ∧ ∀ x, (x < from_ ∨ from_ + 2 * m ≤ x) → updAll W (layActs a mk first (rest ++ more)) x = W x := by
  rw [packs_cons] at hpk
  obtain ⟨hp1, hp2⟩ := List.append_inj hpk (by rw [hfirst, length_head])
  have hk : secsAll recs = rest.length := by
    have := congrArg List.length hp2
    rw [length_packs, hrest.flat] at this
    omega
  have hml : more.length ≤ 1 := by rw [hmore]; split <;> simp
  have hmr : a + 1 + (rest ++ more).length ≤ from_ + (1 - act) * m + m := by
    rw [List.length_append, hmore]; split
    · simp; omega
    · simp; omega
  have ham : (1 - act) * m ≤ m := by have : 1 - act = 0 ∨ 1 - act = 1 := by omega
                                     rcases this with h0 | h0 <;> rw [h0] <;> omega
  have hm1 : 1 ≤ m := by omega
  have ho : (from_ + act * m < from_ + (1 - act) * m) ∨ from_ + (1 - act) * m + m ≤ from_ + act * m := by
    have : act = 0 ∨ act = 1 := by omega
    rcases this with h0 | h0 <;> rw [h0]
    · left; omega
    · right; omega
  obtain ⟨E', hE, hlt⟩ := hother
  have V := lay_view W a mk first (rest ++ more)
  obtain ⟨W', hW'⟩ : ∃ W', W' = updAll W (layActs a mk first (rest ++ more)) := ⟨_, rfl⟩
  rw [← hW'] at V ⊢
  have Vold : ∀ x, x < a ∨ a + 1 + (rest ++ more).length ≤ x → W' x = W x := fun x hx => by rw [V, if_neg (by omega), if_neg (by omega)]
  obtain ⟨b, hb⟩ : ∃ b, b = from_ + (1 - act) * m := ⟨_, rfl⟩
  rw [← hb] at ha hmr ho
  have e11 : 1 - (1 - act) = act := by omega
  refine ⟨⟨by omega, by omega, hep, hfit, by rw [← hb, V, if_pos (by omega)]; exact hp1, ?_, ⟨E', by rw [e11, Vold _ (by omega)]; exact hE, hlt⟩, hr⟩, fun x hx => Vold x (by omega)⟩
  rw [← hb]
  have e1 : m - 1 = rest.length + (m - 1 - rest.length) := by omega
  obtain ⟨q, hq⟩ : ∃ q, q = m - 1 - rest.length := ⟨_, rfl⟩
  rw [← hq] at e1
  have p2 : vt W' (b + 1) rest.length = packs (ep + 1) 1 recs := by
    rw [vt_list (ss := rest) (fun i hi => ?_)]
    · exact hp2
    · rw [V, if_neg (by omega), if_pos (by rw [List.length_append]; omega), show b + 1 + i - (a + 1) = i by omega, List.getD, List.getElem?_append_left hi, ← List.getD]
  refine ⟨vt W' (b + 1 + rest.length) q, by rw [e1, vt_add, p2], tail_none (fun h0 => ?_)⟩
  have hm2 : more = [z64] := by rw [hmore, if_pos (by omega)]
  rw [V, if_neg (by omega), if_pos (by rw [List.length_append, hm2]; simp; omega), show b + 1 + rest.length - (a + 1) = rest.length by omega, List.getD, List.getElem?_append_right (Nat.le_refl _), Nat.sub_self, hm2]
  rfl
end Go.Proofs.YtmobjpandmdmdaaGreatDoor
